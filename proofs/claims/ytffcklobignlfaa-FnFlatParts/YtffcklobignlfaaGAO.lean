/- Several texts in one. -/
import Derived.Test.YtffcklobignlfaaRFW
import Derived.Test.YtffcklobignlfaaGAM
import Derived.Test.YtffcklobignlfaaGAK
import Derived.Test.YtffcklobignlfaaGAJ
import Derived.Test.YtffcklobignlfaaGAI
import Derived.Test.YtffcklobignlfaaGAH
import Derived.Handy
namespace Go.Proofs.Ytffcklobignlfaa
open Go.RowKit
set_option linter.unusedVariables false
set_option linter.unusedSimpArgs false
def sgV (x : Sg) : Value := .agg #[.int .i64 x.ct.v, .int .i64 x.ct.lo, .int .i64 x.ct.wd, .int .i64 x.ct.bw, .slice x.a x.ct.ws.length x.c]
def RdyS (B : Nat) (L : List Sc) (T : Nat) (pre : List Sg) (x : Sg) (W : World) : Prop := (pre ++ [x]).map Sg.ct <+: L ∧ Rd W x.a x.ct.ws ∧ (x.a = none → x.c = 0) ∧ ∀ p, x.a = some p → (p.block < B ∨ T ≤ p.block) ∧ p.block < W.heap.size
abbrev SeqS (n : Nat) (g : Nat) (lb : Array Value) (L : List Sc) (B : Nat) (w : World) : Prop :=
 SeqW Fence.wide n Try.prog g lb (fun x => #[sgV x]) (Below B) (RdyS B L) (fun xs => xs.map Sg.ct = L) (fun pre => pre.map Sg.ct <+: L) w
theorem cz_bz {W W' : World} {b : Nat} {cs : Array Value} {t : TypeId} (h : Bz W b cs t) (hc : Cz W W') : Bz W' b cs t := hc.2 b _ h rfl
theorem cz_rd {W W' : World} {a : Option Addr} {xs : List Nat} (h : Rd W a xs) (hc : Cz W W') : Rd W' a xs := by
 obtain ⟨h1, h2, h3⟩ := h
 refine ⟨h1, h2, ?_⟩
 rcases h3 with h3 | ⟨b, o, rfl, hcell⟩
 ·exact .inl h3
 ·refine .inr ⟨b, o, rfl, fun i hi => ?_⟩
  have h9 := hcell i hi
  have hl := block_lt_of_cell h9
  have hb : W'.heap[b]? = W.heap[b]? := by
   obtain ⟨ob, hob⟩ : ∃ ob, W.heap[b]? = some ob := ⟨_, Array.getElem?_eq_getElem hl⟩
   rw [hob]
   refine hc.2 b ob hob ?_
   cases ob with
   | cells cs t fr => rfl
   | _ => simp [World.cell?, hob] at h9
  rw [World.cell?_of_block (a := ⟨b, o + i, none⟩) hb]
  exact h9
theorem cz_own {W W' : World} {B n : Nat} {e : TypeId} {s : Nat} {v : Value} {xs : List Value} (h : W.ownsRow B e s v n xs) (hc : Cz W W') : W'.ownsRow B e s v n xs := by
 obtain ⟨h1, h2⟩ := h
 refine ⟨h1, ?_⟩
 rcases h2 with h2 | ⟨g, cap, cur, rfl, hg, hh, r⟩
 ·exact .inl h2
 ·exact .inr ⟨g, cap, cur, rfl, hg, hc.2 g _ hh rfl, r⟩
theorem cz_grown {W W' : World} {row : Option Nat} (hg : W.grownBy W' row) (hr : ∀ r, row = some r → ∃ o : Obj, W.heap[r]? = some o ∧ o.isCells = false) : Cz W W' :=
 ⟨hg.size, fun k o hk hc => (hg.block k (Array.getElem?_eq_some_iff.1 hk).1 (fun e => by
  obtain ⟨o', ho', hn⟩ := hr k e.symm
  rw [hk] at ho'
  cases ho'
  rw [hc] at hn
  cases hn)).trans hk⟩
theorem mid_get {F : List Sc} {a s : Sc} {i : Nat} (h : (F ++ [a])[i]? = some s) : (i < F.length ∧ F[i]? = some s) ∨ (i = F.length ∧ s = a) := by
 rcases Nat.lt_trichotomy i F.length with h1 | h1 | h1
 ·rw [List.getElem?_append_left h1] at h
  exact .inl ⟨h1, h⟩
 ·subst h1
  simp at h
  exact .inr ⟨rfl, h.symm⟩
 ·rw [List.getElem?_eq_none (by simp; omega)] at h
  cases h
theorem Nf.one {b : Sc} (hb : okS b) : Nf [b] := ⟨by simpa using hb, fun i s t h1 h2 => by simp at h2⟩
theorem Nf.snoc {F : List Sc} {a b : Sc} (h : Nf (F ++ [a])) (hb : okS b) (hn : oneB a b = false) : Nf (F ++ [a] ++ [b]) := by
 refine ⟨fun s hs => ?_, fun i s t h1 h2 => ?_⟩
 ·rcases List.mem_append.1 hs with hs | hs
  ·exact h.ok s hs
  ·rw [List.mem_singleton.1 hs]; exact hb
 ·rcases mid_get h2 with ⟨h3, h4⟩ | ⟨h3, rfl⟩
  ·rcases mid_get h1 with ⟨h5, h6⟩ | ⟨h5, h6⟩
   ·exact h.ap i s t h6 h4
   ·omega
  ·rcases mid_get h1 with ⟨h5, h6⟩ | ⟨h5, h6⟩
   ·have : i = F.length := by simp at h3; omega
    subst this
    simp at h6
    subst h6
    exact hn
   ·omega
theorem Nf.last {F : List Sc} {a b : Sc} (h : Nf (F ++ [a])) (hb : okS (oneS a b)) : Nf (F ++ [oneS a b]) := by
 refine ⟨fun s hs => ?_, fun i s t h1 h2 => ?_⟩
 ·rcases List.mem_append.1 hs with hs | hs
  ·exact h.ok s (by simp [hs])
  ·rw [List.mem_singleton.1 hs]; exact hb
 ·rcases mid_get h2 with ⟨h3, h4⟩ | ⟨h3, rfl⟩
  ·rcases mid_get h1 with ⟨h5, h6⟩ | ⟨h5, h6⟩
   ·exact h.ap i s t (by rw [List.getElem?_append_left h5]; exact h6) (by rw [List.getElem?_append_left h3]; exact h4)
   ·omega
  ·rcases mid_get h1 with ⟨h5, h6⟩ | ⟨h5, h6⟩
   ·have h9 := h.ap i s a (by rw [List.getElem?_append_left h5]; exact h6) (by rw [h3]; simp)
    rcases oneS_on (a := a) (b := b) (c := s) with h8 | h8
    ·rw [h8]; exact h9
    ·rw [h8.2]; exact h9
   ·omega
theorem formP_one {F : List Sc} {a b : Sc} (ha : okS a) (hb : okS b) (ho : oneB a b = true) : formP (F ++ [oneS a b]) = formP (F ++ [a]) ++ formP [b] := by
 rw [formP_app, formP_app]
 have h1 : formP [oneS a b] = segPs (oneS a b) (oneS a b).wd.toNat := by simp [formP]
 have h2 : formP [a] = segPs a a.wd.toNat := by simp [formP]
 have h3 : formP [b] = segPs b b.wd.toNat := by simp [formP]
 rw [h1, h2, h3, oneS_P ha hb ho, List.append_assoc]
theorem two_wide {L : List Sc} {F pre : List Sc} {a b : Sc} (hL : ∀ s ∈ L, okS s) (hs : sumS L ≤ 4096) (hF : ∀ s ∈ F ++ [a], okS s) (hp : formP (F ++ [a]) = formP pre) (hpre : pre ++ [b] <+: L) : a.wd + b.wd ≤ 4096 := by
 obtain ⟨r, hr⟩ := hpre
 have hb : okS b := hL b (by rw [← hr]; simp)
 have h1 := formP_len (F ++ [a]) (fun s hs => by have := (hF s hs).1; omega)
 have h2 := formP_len L (fun s hs => by have := (hL s hs).1; omega)
 have h3 : formP L = formP pre ++ formP [b] ++ formP r := by rw [← hr, formP_app, formP_app]
 have h4 : (formP [b]).length = b.wd.toNat := by simp [formP, segPs_len]
 rw [h3, ← hp] at h2
 simp only [List.length_append] at h2
 rw [sumS_append] at h1
 have h5 : sumS [a] = a.wd := by simp [sumS]
 have h6 : 0 ≤ sumS F := by
  have := formP_len F (fun s hs => by have := (hF s (by simp [hs])).1; omega)
  omega
 have := hb.1
 omega

structure Gi (w : World) (b : Nat) (L : List Sc) (pre : List Sg) (ow : Bool) (v : Value) (l : List Sg) (W : World) : Prop where
 r0 : Bz W b #[.slice none 0 0] 25
 r1 : Bz W (b + 1) #[.bool false] 4
 fx : Bz W (b + 1 + 1) #[v] 25
 ox : Bz W (b + 1 + 1 + 1) #[.bool ow] 4
 row : OS5 W b v l
 nf : Nf (l.map Sg.ct)
 bits : formP (l.map Sg.ct) = formP (pre.map Sg.ct)
 lo : ∀ x ∈ l, 0 ≤ x.ct.lo ∧ x.ct.lo ≤ 4096
 len : l.length ≤ 2000
 rd : ∀ x ∈ l, Rd W x.a x.ct.ws
 no : ∀ x ∈ l, x.a = none → x.c = 0
 pl : ∀ x ∈ l, ∀ p, x.a = some p → p.block < W.heap.size
 own : ow = true → ∃ (l' : List Sg) (x : Sg), l = l' ++ [x] ∧ OwW W b (.slice x.a x.ct.ws.length x.c) x.ct.ws ∧ ∀ y ∈ l', ∀ p q, x.a = some p → y.a = some q → p.block ≠ q.block
 ra : ∀ x ∈ l, ∀ p, x.a = some p → v.ownBlock ≠ some p.block
 pre : pre.map Sg.ct <+: L
 bel : Below b w W
theorem Gi.cz {w : World} {b : Nat} {L : List Sc} {pre : List Sg} {ow : Bool} {v : Value} {l : List Sg} {W W' : World} (h : Gi w b L pre ow v l W) (hc : Cz W W') (hb : Below b w W') : Gi w b L pre ow v l W' :=
 ⟨cz_bz h.r0 hc, cz_bz h.r1 hc, cz_bz h.fx hc, cz_bz h.ox hc, cz_own h.row hc, h.nf, h.bits, h.lo, h.len, fun x hx => cz_rd (h.rd x hx) hc, h.no, fun x hx p hp => Nat.lt_of_lt_of_le (h.pl x hx p hp) hc.1, fun e => by
  obtain ⟨l', x, h1, h2, h3⟩ := h.own e
  exact ⟨l', x, h1, cz_own h2 hc, h3⟩, h.ra, h.pre, hb⟩
theorem Gi.later {w : World} {b : Nat} {L : List Sc} {pre : List Sg} {ow : Bool} {v : Value} {l : List Sg} {W W' : World} (h : Gi w b L pre ow v l W) (hb : Below W.heap.size W W') (hbw : b ≤ W.heap.size) : Gi w b L pre ow v l W' :=
 h.cz (Cz.below hb) (h.bel.trans (hb.mono hbw))

def cutS (s : Sc) (p m : Nat) : Sc := if (m : Int) = s.wd then s else if s.v = -1 then ⟨-1, 0, m, m, pack (((bitsTo s.ws s.bw.toNat).drop p).take m)⟩ else ⟨s.v, s.lo + p, m, 0, []⟩
def betS (lo en : Nat) : Nat → List Sc → List Sc
 | _, [] => []
 | f, s :: t => (if max f lo < min (f + s.wd.toNat) en then [cutS s (max f lo - f) (min (f + s.wd.toNat) en - max f lo)] else []) ++ betS lo en (f + s.wd.toNat) t
theorem cutS_wd (s : Sc) (p m : Nat) : (cutS s p m).wd = m := by
 unfold cutS
 split
 ·rename_i h; exact h.symm
 ·split <;> rfl
theorem range_drop_take {β : Type} (f : Nat → β) (N p m : Nat) (h : p + m ≤ N) : (((List.range N).map f).drop p).take m = (List.range m).map fun k => f (p + k) := by
 apply List.ext_getElem?
 intro i
 by_cases hi : i < m
 ·rw [List.getElem?_take, if_pos hi, List.getElem?_drop]
  simp [hi, show p + i < N by omega]
 ·rw [List.getElem?_eq_none (by simp; omega), List.getElem?_eq_none (by simp; omega)]
theorem tb_cut (ws : List Nat) (V p m k : Nat) (h : p + m ≤ V) (hk : k < m) : tb (pack (((bitsTo ws V).drop p).take m)) k = tb ws (p + k) := by
 rw [tb_pack _ (fun x hx => bitsTo_le ws V x (List.mem_of_mem_drop (List.mem_of_mem_take hx))), List.getD, List.getElem?_take, if_pos hk, List.getElem?_drop]
 have := bits_getD3 ws V (p + k) (by omega)
 simp only [List.getD] at this
 rw [this]
 cases tb ws (p + k) <;> rfl
theorem cut_len (ws : List Nat) (V p m : Nat) (h : p + m ≤ V) : (((bitsTo ws V).drop p).take m).length = m := by
 rw [List.length_take, List.length_drop, bitsTo_len]
 omega
theorem cutS_ok {s : Sc} {p m : Nat} (h : okS s) (hm : 1 ≤ m) (hp : (p : Int) + m ≤ s.wd) : okS (cutS s p m) := by
 have h1 := h.2.1
 unfold cutS
 split
 ·exact h
 ·split
  ·rename_i e
   refine ⟨by simp only []; omega, by simp only []; omega, fun y hy => pack_lt _ y hy, .inl ⟨rfl, rfl, rfl, ?_⟩⟩
   have hb : s.bw = s.wd := by
    rcases h.2.2.2 with h9 | h9
    ·exact h9.2.2.1
    ·omega
   have h8 := cut_len s.ws s.bw.toNat p m (by omega)
   have := pack_right (((bitsTo s.ws s.bw.toNat).drop p).take m) (fun x hx => bitsTo_le _ _ x (List.mem_of_mem_drop (List.mem_of_mem_take hx))) (by omega) (by omega)
   rw [h8] at this
   exact this
  ·rename_i e
   have hv : 0 ≤ s.v := by
    rcases h.2.2.2 with h9 | h9
    ·exact absurd h9.1 e
    ·exact h9.1
   exact ⟨by simp only []; omega, by simp only []; omega, by simp, .inr ⟨hv, rfl, rfl⟩⟩
theorem cutS_lo {s : Sc} {p m : Nat} (h : 0 ≤ s.lo ∧ s.lo + s.wd ≤ 4096) (hm : 1 ≤ m) (hp : (p : Int) + m ≤ s.wd) : 0 ≤ (cutS s p m).lo ∧ (cutS s p m).lo ≤ 4096 := by
 unfold cutS
 split
 ·omega
 ·split
  ·simp
  ·simp only []; omega
theorem cutS_P {s : Sc} {p m : Nat} (h : okS s) (hm : 1 ≤ m) (hp : (p : Int) + m ≤ s.wd) : segPs (cutS s p m) m = ((segPs s s.wd.toNat).drop p).take m := by
 have h1 := h.1
 unfold cutS
 split
 ·rename_i e
  have e2 : p = 0 := by omega
  subst e2
  rw [List.drop_zero, ← e, Int.toNat_natCast, List.take_of_length_le (by rw [segPs_len]; omega)]
 ·split
  ·rename_i e
   have hb : s.bw = s.wd := by
    rcases h.2.2.2 with h9 | h9
    ·exact h9.2.2.1
    ·omega
   rw [segPs_cst rfl, segPs_cst e, range_drop_take _ _ _ _ (by omega)]
   refine List.map_congr_left fun k hk => ?_
   simp only []
   rw [tb_cut _ _ _ _ _ (by omega) (List.mem_range.1 hk)]
  ·rename_i e
   have hv : 0 ≤ s.v := by
    rcases h.2.2.2 with h9 | h9
    ·exact absurd h9.1 e
    ·exact h9.1
   rw [segPs_var (s := ⟨s.v, s.lo + p, m, 0, []⟩) hv, segPs_var hv]
   unfold runL
   rw [range_drop_take _ _ _ _ (by omega)]
   refine List.map_congr_left fun k hk => ?_
   simp only []
   congr 1
   push_cast
   omega
theorem betS_app (lo en : Nat) : ∀ (a b : List Sc) (f : Nat), betS lo en f (a ++ b) = betS lo en f a ++ betS lo en (f + (formP a).length) b
 | [], b, f => by simp [betS, formP_nil]
 | s :: t, b, f => by
  rw [List.cons_append, betS, betS, betS_app lo en t b, formP_cons, List.length_append, segPs_len, List.append_assoc, Nat.add_assoc]
theorem bet_in {f lo en wd : Nat} (h : max f lo < min (f + wd) en) : 1 ≤ min (f + wd) en - max f lo ∧ max f lo - f + (min (f + wd) en - max f lo) ≤ wd := by omega
theorem betS_mem (lo en : Nat) : ∀ (l : List Sc) (f : Nat) (x : Sc), x ∈ betS lo en f l → ∃ s ∈ l, ∃ p m, 1 ≤ m ∧ p + m ≤ s.wd.toNat ∧ x = cutS s p m
 | [], f, x, h => by simp [betS] at h
 | s :: t, f, x, h => by
  rw [betS] at h
  rcases List.mem_append.1 h with h | h
  ·split at h
   ·rename_i hc
    have := bet_in hc
    exact ⟨s, by simp, _, _, this.1, this.2, List.mem_singleton.1 h⟩
   ·cases h
  ·obtain ⟨s', hs', r⟩ := betS_mem lo en t _ x h
   exact ⟨s', List.mem_cons_of_mem _ hs', r⟩
theorem betS_P (lo en : Nat) : ∀ (l : List Sc) (f : Nat), (∀ s ∈ l, okS s) → formP (betS lo en f l) = ((formP l).take (en - f)).drop (lo - f)
 | [], f, _ => by simp [betS, formP_nil]
 | s :: t, f, h => by
  have hs := h s (by simp)
  have h1 := hs.1
  rw [betS, formP_app, betS_P lo en t _ (fun x hx => h x (by simp [hx])), formP_cons, List.take_append, segPs_len, List.drop_append]
  have e2 : ((formP t).take (en - f - s.wd.toNat)).drop (lo - f - ((segPs s s.wd.toNat).take (en - f)).length) = ((formP t).take (en - (f + s.wd.toNat))).drop (lo - (f + s.wd.toNat)) := by
   rw [List.length_take, segPs_len]
   by_cases e : s.wd.toNat ≤ en - f
   ·rw [Nat.min_eq_right e, Nat.sub_sub, Nat.sub_sub]
   ·rw [show en - f - s.wd.toNat = 0 by omega, show en - (f + s.wd.toNat) = 0 by omega]
    simp
  rw [e2]
  congr 1
  split
  ·rename_i hc
   have hb := bet_in hc
   have h9 := cutS_P (p := max f lo - f) (m := min (f + s.wd.toNat) en - max f lo) hs hb.1 (by omega)
   have h8 : formP [cutS s (max f lo - f) (min (f + s.wd.toNat) en - max f lo)] = segPs (cutS s (max f lo - f) (min (f + s.wd.toNat) en - max f lo)) (min (f + s.wd.toNat) en - max f lo) := by
    simp only [formP, List.flatMap_cons, List.flatMap_nil, List.append_nil, cutS_wd, Int.toNat_natCast]
   rw [h8, h9, List.drop_take, show max f lo - f = lo - f by omega]
   by_cases e : f + s.wd.toNat ≤ en
   ·rw [List.take_of_length_le (i := en - f - (lo - f)) (by rw [List.length_drop, segPs_len]; omega), List.take_of_length_le (i := min (f + s.wd.toNat) en - max f lo) (by rw [List.length_drop, segPs_len]; omega)]
   ·congr 1
    omega
  ·rename_i hc
   rw [formP_nil, List.drop_eq_nil_of_le]
   rw [List.length_take, segPs_len]
   omega
theorem betS_ok {lo en f : Nat} {l : List Sc} (h : ∀ s ∈ l, okS s ∧ 0 ≤ s.lo ∧ s.lo + s.wd ≤ 4096) : ∀ s ∈ betS lo en f l, okS s ∧ 0 ≤ s.lo ∧ s.lo ≤ 4096 := fun x hx => by
 obtain ⟨s, hs, p, m, h1, h2, rfl⟩ := betS_mem lo en l f x hx
 obtain ⟨h3, h4⟩ := h s hs
 have := h3.1
 exact ⟨cutS_ok h3 h1 (by omega), cutS_lo h4 h1 (by omega)⟩
theorem betS_sum {lo en f : Nat} {l : List Sc} (h : ∀ s ∈ l, okS s ∧ 0 ≤ s.lo ∧ s.lo + s.wd ≤ 4096) : sumS (betS lo en f l) ≤ sumS l := by
 have h1 := formP_len (betS lo en f l) (fun s hs => by have := (betS_ok h s hs).1.1; omega)
 have h2 := formP_len l (fun s hs => by have := (h s hs).1.1; omega)
 rw [betS_P lo en l f (fun s hs => (h s hs).1), List.length_drop, List.length_take] at h1
 omega
theorem betS_snoc (lo en : Nat) (l : List Sc) {k : Nat} {s : Sc} (h : l[k]? = some s) : betS lo en 0 (l.take (k + 1)) = betS lo en 0 (l.take k) ++ (if max (formP (l.take k)).length lo < min ((formP (l.take k)).length + s.wd.toNat) en then [cutS s (max (formP (l.take k)).length lo - (formP (l.take k)).length) (min ((formP (l.take k)).length + s.wd.toNat) en - max (formP (l.take k)).length lo)] else []) := by
 rw [List.take_add_one, h, Option.toList_some, betS_app, Nat.zero_add, betS, betS, List.append_nil]
theorem betS_pre (lo en : Nat) (l : List Sc) (k : Nat) : betS lo en 0 (l.take k) <+: betS lo en 0 l := by
 have h9 := betS_app lo en (l.take k) (l.drop k) 0
 rw [List.take_append_drop] at h9
 exact ⟨_, h9.symm⟩
theorem sgOk_lo {ds : List Dc} {s : Sc} (hd : dclR ds = true) (h : sgOk ds s = true) : 0 ≤ s.lo ∧ s.lo + s.wd ≤ 4096 := by
 have h9 := sgOk_wdt hd h
 by_cases e : s.v = -1
 ·obtain ⟨h1, h2, h3⟩ := sgOk_cst h e
  omega
 ·obtain ⟨a, b, c, d, f⟩ := sgOk_vr h e
  have hw : (ds.getD s.v.toNat (.empty, 0)).2 ≤ 4096 := by
   have hl : s.v.toNat < ds.length := by omega
   have := dclR_wd hd (k := s.v.toNat) (List.getElem?_eq_getElem hl)
   simp [List.getD, hl]
   exact this.2
  omega
def okI (p : Ib) : Prop := in64 p.1 ∧ ((p.1 = -1 ∧ (p.2 = 0 ∨ p.2 = 1)) ∨ (0 ≤ p.1 ∧ 0 ≤ p.2 ∧ p.2 ≤ 4095))
theorem okI_lt {p : Ib} (h : okI p) : (p.1 < 0 → p.1 = -1 ∧ (p.2 = 0 ∨ p.2 = 1)) ∧ (¬ p.1 < 0 → 0 ≤ p.1 ∧ 0 ≤ p.2 ∧ p.2 ≤ 4095) := by
 rcases h.2 with h | h
 ·exact ⟨fun _ => h, fun h9 => by omega⟩
 ·exact ⟨fun h9 => by omega, fun _ => h⟩
theorem runC_all : ∀ (t : List Ib), ∀ q ∈ t.take (runC t), q.1 < 0
 | [], q, h => by simp at h
 | p :: t, q, h => by
  unfold runC at h
  split at h
  ·rename_i hp
   rw [List.take_succ_cons] at h
   rcases List.mem_cons.1 h with rfl | h
   ·exact hp
   ·exact runC_all t q h
  ·simp at h
theorem runV_run : ∀ (t : List Ib) (p : Ib), (p :: t).take (runV p t + 1) = runL p.1 p.2 (runV p t + 1)
 | [], p => by simp [runV, runL]
 | q :: t, p => by
  unfold runV
  split
  ·rename_i h
   rw [List.take_succ_cons, runV_run t q, h.1, h.2, runL_succ p.1 p.2]
  ·simp [runL]
theorem segC_P {c : List Ib} (h : ∀ p ∈ c, p.1 = -1 ∧ (p.2 = 0 ∨ p.2 = 1)) : segPs (segC c) c.length = c := by
 rw [segPs_cst rfl]
 apply List.ext_getElem?
 intro i
 by_cases hi : i < c.length
 ·rw [List.getElem?_map, List.getElem?_range hi, Option.map_some, List.getElem?_eq_getElem hi]
  have hp := h c[i] (List.getElem_mem hi)
  unfold segC
  simp only []
  rw [tb_pack _ (fun x hx => by
   obtain ⟨q, hq, rfl⟩ := List.mem_map.1 hx
   have := h q hq
   omega)]
  have e : (c.map fun p => p.2.toNat).getD i 0 = (c[i]).2.toNat := by simp [List.getD, hi]
  rw [e]
  congr 1
  refine Prod.ext hp.1.symm ?_
  simp only []
  rcases hp.2 with h0 | h0 <;> simp [h0]
 ·rw [List.getElem?_eq_none (by simp; omega), List.getElem?_eq_none (by omega)]
theorem segC_ok {c : List Ib} (h : ∀ p ∈ c, p.1 = -1 ∧ (p.2 = 0 ∨ p.2 = 1)) (h1 : 1 ≤ c.length) (h2 : c.length ≤ 4096) : okS (segC c) := by
 have := pack_right (c.map fun p => p.2.toNat) (fun x hx => by
   obtain ⟨q, hq, rfl⟩ := List.mem_map.1 hx
   have := h q hq
   omega) (by simpa using h1) (by simpa using h2)
 rw [List.length_map] at this
 exact ⟨by unfold segC; simp only []; omega, by unfold segC; simp only []; omega, fun y hy => pack_lt _ y hy, .inl ⟨rfl, rfl, rfl, this⟩⟩
theorem formB_P : ∀ (n : Nat) (l : List Ib), l.length ≤ n → l.length ≤ 4096 → (∀ p ∈ l, okI p) → formP (formB l) = l ∧ ∀ s ∈ formB l, okS s ∧ 0 ≤ s.lo ∧ s.lo + s.wd ≤ 4096
 | 0, l, h, _, _ => by
  have : l = [] := List.eq_nil_of_length_eq_zero (by omega)
  subst this
  rw [formB_nil]
  exact ⟨rfl, by simp⟩
 | n + 1, [], _, _, _ => by rw [formB_nil]; exact ⟨rfl, by simp⟩
 | n + 1, p :: t, h, h2, hp => by
  have hlen : (p :: t).length = t.length + 1 := rfl
  rw [formB_cons]
  split
  ·rename_i hv
   have hl := runC_le t
   have ih := formB_P n (t.drop (runC t)) (by rw [List.length_drop]; omega) (by rw [List.length_drop]; omega) (fun q hq => hp q (List.mem_cons_of_mem _ (List.mem_of_mem_drop hq)))
   have hc : ∀ q ∈ (p :: t).take (runC t + 1), q.1 = -1 ∧ (q.2 = 0 ∨ q.2 = 1) := fun q hq => by
    refine (okI_lt (hp q (List.mem_of_mem_take hq))).1 ?_
    rw [List.take_succ_cons] at hq
    rcases List.mem_cons.1 hq with rfl | hq
    ·exact hv
    ·exact runC_all t q hq
   have hcl : ((p :: t).take (runC t + 1)).length = runC t + 1 := by rw [List.length_take]; omega
   refine ⟨?_, fun s hs => ?_⟩
   ·rw [formP_cons, ih.1, show (segC ((p :: t).take (runC t + 1))).wd.toNat = ((p :: t).take (runC t + 1)).length from rfl, segC_P hc, show t.drop (runC t) = (p :: t).drop (runC t + 1) from rfl, List.take_append_drop]
   ·rcases List.mem_cons.1 hs with rfl | hs
    ·refine ⟨segC_ok hc (by omega) (by omega), ?_⟩
     unfold segC
     simp only []
     omega
    ·exact ih.2 s hs
  ·rename_i hv
   have hl := runV_le t p
   have ih := formB_P n (t.drop (runV p t)) (by rw [List.length_drop]; omega) (by rw [List.length_drop]; omega) (fun q hq => hp q (List.mem_cons_of_mem _ (List.mem_of_mem_drop hq)))
   have hp0 := (okI_lt (hp p (by simp))).2 hv
   refine ⟨?_, fun s hs => ?_⟩
   ·rw [formP_cons, ih.1, segPs_var (s := segV p (runV p t + 1)) hp0.1]
    unfold segV
    simp only [Int.toNat_natCast]
    rw [← runV_run t p, show t.drop (runV p t) = (p :: t).drop (runV p t + 1) from rfl, List.take_append_drop]
   ·rcases List.mem_cons.1 hs with rfl | hs
    ·have hlast : (p.1, p.2 + (runV p t : Int)) ∈ p :: t := by
      have h9 : (p.1, p.2 + (runV p t : Int)) ∈ runL p.1 p.2 (runV p t + 1) := List.mem_map.2 ⟨runV p t, List.mem_range.2 (by omega), rfl⟩
      rw [← runV_run t p] at h9
      exact List.mem_of_mem_take h9
     have h9 := (okI_lt (hp _ hlast)).2 (by simp only []; omega)
     simp only [] at h9
     unfold segV
     refine ⟨⟨by simp only []; omega, by simp only []; omega, by simp, .inr ⟨hp0.1, rfl, rfl⟩⟩, hp0.2.1, by simp only []; omega⟩
    ·exact ih.2 s hs

def kidsB (all : List (List Ib)) (ks : List Int) : List (List Ib) := ks.map fun k => all.getD k.toNat []
def turnB (k : List Ib) (by' : Nat) : List Ib := k.drop (k.length - by') ++ k.take (k.length - by')
def nodB (ds : List Dc) (all : List (List Ib)) (n : Tc) : List Ib :=
 if n.op = 1 then runL n.vr 0 (ds.getD n.vr.toNat (.empty, 0)).2.toNat
 else if n.op = 2 then (List.range n.bw.toNat).map fun k => (-1, (((tb n.ws k).toNat : Nat) : Int))
 else if n.op = 3 then (kidsB all n.ks).reverse.flatten
 else if n.op = 4 then (((kidsB all n.ks).getD 0 []).drop n.b.toNat).take (n.a.toNat + 1 - n.b.toNat)
 else if n.op = 5 then (kidsB all n.ks).getD 0 [] ++ List.replicate n.a.toNat (-1, 0)
 else if n.op = 6 then (kidsB all n.ks).getD 0 [] ++ List.replicate n.a.toNat (((kidsB all n.ks).getD 0 []).getD (((kidsB all n.ks).getD 0 []).length - 1) (-1, 0))
 else if n.op = 7 then turnB ((kidsB all n.ks).getD 0 []) (n.a.toNat % ((kidsB all n.ks).getD 0 []).length)
 else if n.op = 8 then turnB ((kidsB all n.ks).getD 0 []) ((((kidsB all n.ks).getD 0 []).length - n.a.toNat % ((kidsB all n.ks).getD 0 []).length) % ((kidsB all n.ks).getD 0 []).length)
 else (List.replicate n.a.toNat ((kidsB all n.ks).getD 0 [])).flatten

structure AheadB (wide : List Int) (all : List (List Ib)) : Prop where
 len : all.length = wide.length
 ok : ∀ i, i < all.length → ((all.getD i []).length : Int) = wide.getD i 0 ∧ 1 ≤ wide.getD i 0 ∧ wide.getD i 0 ≤ 4096 ∧ ∀ p ∈ all.getD i [], okI p
theorem AheadB.nil : AheadB [] [] := ⟨rfl, fun i hi => by simp at hi⟩
theorem AheadB.push {wide : List Int} {all : List (List Ib)} {v : Int} {x : List Ib} (h : AheadB wide all) (h1 : (x.length : Int) = v) (h2 : 1 ≤ v ∧ v ≤ 4096) (h3 : ∀ p ∈ x, okI p) : AheadB (wide ++ [v]) (all ++ [x]) := by
 refine ⟨by simp [h.len], fun i hi => ?_⟩
 by_cases hlt : i < all.length
 ·have hw : i < wide.length := by rw [← h.len]; exact hlt
  have e1 : (all ++ [x]).getD i [] = all.getD i [] := by simp [List.getD, List.getElem?_append_left hlt]
  have e2 : (wide ++ [v]).getD i 0 = wide.getD i 0 := by simp [List.getD, List.getElem?_append_left hw]
  rw [e1, e2]
  exact h.ok i hlt
 ·have e : i = all.length := by simp at hi; omega
  subst e
  have e1 : (all ++ [x]).getD all.length [] = x := by simp [List.getD]
  have e2 : (wide ++ [v]).getD all.length 0 = v := by rw [h.len]; simp [List.getD]
  rw [e1, e2]
  exact ⟨h1, h2.1, h2.2, h3⟩
theorem AheadB.nonneg {wide : List Int} {all : List (List Ib)} (h : AheadB wide all) (i : Nat) : 0 ≤ wide.getD i 0 := by
 by_cases hi : i < all.length
 ·have := (h.ok i hi).2.1
  omega
 ·have : wide.getD i 0 = 0 := by simp [List.getD, List.getElem?_eq_none (show wide.length ≤ i by rw [← h.len]; omega)]
  omega
theorem sumB_eq (wide : List Int) (hw : ∀ i, 0 ≤ wide.getD i 0) : ∀ (ks : List Int) (s : Int), 0 ≤ s → sumR wide ks s ≤ 4096 → sumR wide ks s = s + (ks.map fun k => wide.getD k.toNat 0).sum
 | [], s, _, h => by simp [sumR]
 | k :: t, s, h0, h => by
  rw [sumR] at h ⊢
  have a := hw k.toNat
  have h1 := sumB_eq wide hw t _ (by omega) h
  have h2 : 0 ≤ (t.map fun k => wide.getD k.toNat 0).sum := by
   clear h1 h
   induction t with
   | nil => simp
   | cons x t ih => simp only [List.map_cons, List.sum_cons]; have := hw x.toNat; omega
  rw [List.map_cons, List.sum_cons, h1]
  rw [h1] at h
  omega
theorem AheadB.kid {wide : List Int} {all : List (List Ib)} (h : AheadB wide all) {ks : List Int} (hk : kidsR wide.length ks = true) {k : Int} (hm : k ∈ ks) : (0 ≤ k ∧ k < (all.length : Int)) ∧ ((all.getD k.toNat []).length : Int) = wide.getD k.toNat 0 ∧ 1 ≤ wide.getD k.toNat 0 ∧ wide.getD k.toNat 0 ≤ 4096 ∧ ∀ p ∈ all.getD k.toNat [], okI p := by
 unfold kidsR at hk
 have h9 := List.all_eq_true.1 hk k hm
 simp only [decide_eq_true_eq] at h9
 have hl := h.len
 exact ⟨by omega, h.ok k.toNat (by omega)⟩
theorem kidsB_len {wide : List Int} {all : List (List Ib)} (h : AheadB wide all) : ∀ {ks : List Int}, kidsR wide.length ks = true → ((kidsB all ks).flatten.length : Int) = (ks.map fun k => wide.getD k.toNat 0).sum
 | [], _ => by simp [kidsB]
 | k :: t, hk => by
  have h1 := (h.kid hk (k := k) (by simp)).2.1
  have h2 := kidsB_len h (ks := t) (by unfold kidsR at hk ⊢; simp only [List.all_cons, Bool.and_eq_true] at hk; exact hk.2)
  simp only [kidsB, List.map_cons, List.flatten_cons, List.length_append, List.sum_cons] at h2 ⊢
  omega
theorem runL_len (v a : Int) (m : Nat) : (runL v a m).length = m := by simp [runL]
theorem turnB_len (k : List Ib) (b : Nat) : (turnB k b).length = k.length := by
 unfold turnB
 rw [List.length_append, List.length_drop, List.length_take]
 omega
theorem turnB_mem {k : List Ib} {b : Nat} {p : Ib} (h : p ∈ turnB k b) : p ∈ k := by
 unfold turnB at h
 rcases List.mem_append.1 h with h | h
 ·exact List.mem_of_mem_drop h
 ·exact List.mem_of_mem_take h

structure FNode (ds : List Dc) (all : List (List Ib)) (n : Tc) : Prop where
 op : 1 ≤ n.op ∧ n.op ≤ 9
 kid : ∀ j ∈ n.ks, (0 ≤ j ∧ j < (all.length : Int)) ∧ 1 ≤ (all.getD j.toNat []).length ∧ (all.getD j.toNat []).length ≤ 4096 ∧ ∀ p ∈ all.getD j.toNat [], okI p
 var : n.op = 1 → (0 ≤ n.vr ∧ n.vr < (ds.length : Int)) ∧ 1 ≤ (ds.getD n.vr.toNat (.empty, 0)).2 ∧ (ds.getD n.vr.toNat (.empty, 0)).2 ≤ 4096
 cst : n.op = 2 → rightB n.bw n.ws = true
 many : n.op = 3 → 2 ≤ n.ks.length
 one : 4 ≤ n.op → ∃ j, n.ks = [j]
 part : n.op = 4 → 0 ≤ n.b ∧ n.b ≤ n.a ∧ n.a < ((kidsB all n.ks).getD 0 []).length
 amt : 5 ≤ n.op → 0 ≤ n.a ∧ n.a ≤ 4096
 rep : n.op = 9 → 1 ≤ n.a
 len : 1 ≤ (nodB ds all n).length ∧ (nodB ds all n).length ≤ 4096
 ok : ∀ p ∈ nodB ds all n, okI p
theorem nodB_ok {ds : List Dc} {wide : List Int} {all : List (List Ib)} {n : Tc} {v : Int} (ha : AheadB wide all) (hd : dclR ds = true) (hv64 : in64 n.vr) (hs : stepR ds wide n = some v) :
  FNode ds all n ∧ ((nodB ds all n).length : Int) = v := by
 unfold stepR at hs
 split at hs
 ·rename_i hc
  simp only [Bool.and_eq_true] at hc
  obtain ⟨⟨hk, hf⟩, hm⟩ := hc
  split at hs
  ·rename_i hw
   obtain rfl := Option.some.inj hs
   have hkid : ∀ j ∈ n.ks, (0 ≤ j ∧ j < (all.length : Int)) ∧ 1 ≤ (all.getD j.toNat []).length ∧ (all.getD j.toNat []).length ≤ 4096 ∧ ∀ p ∈ all.getD j.toNat [], okI p := fun j hj => by
    obtain ⟨h1, h2, h3, h4, h5⟩ := ha.kid hk hj
    exact ⟨h1, by omega, by omega, h5⟩
   have hop : 1 ≤ n.op ∧ n.op ≤ 9 := by
    unfold manyR at hm
    split at hm
    ·omega
    ·split at hm
     ·omega
     ·split at hm
      ·omega
      ·split at hm
       ·omega
       ·cases hm
   have hone : 4 ≤ n.op → ∃ j, n.ks = [j] := fun h4 => by
    unfold manyR at hm
    rw [if_neg (by omega), if_neg (by omega), if_neg (by omega), if_pos ⟨h4, hop.2⟩] at hm
    simp only [decide_eq_true_eq] at hm
    exact List.length_eq_one_iff.1 hm
   -- of one kid
   have hK : 4 ≤ n.op → ((((kidsB all n.ks).getD 0 []).length : Int) = sumR wide n.ks 0) ∧ 1 ≤ ((kidsB all n.ks).getD 0 []).length ∧ ((kidsB all n.ks).getD 0 []).length ≤ 4096 ∧ ∀ p ∈ (kidsB all n.ks).getD 0 [], okI p := fun h4 => by
    obtain ⟨j, hj⟩ := hone h4
    obtain ⟨h1, h2, h3, h4, h5⟩ := ha.kid hk (k := j) (by rw [hj]; simp)
    have e : (kidsB all n.ks).getD 0 [] = all.getD j.toNat [] := by rw [hj]; simp [kidsB]
    rw [e, hj, sumR, sumR]
    exact ⟨by omega, by omega, by omega, h5⟩
   have key : (((nodB ds all n).length : Int) = wideR ds n (sumR wide n.ks 0)) ∧ ∀ p ∈ nodB ds all n, okI p := by
    rcases (show n.op = 1 ∨ n.op = 2 ∨ n.op = 3 ∨ n.op = 4 ∨ n.op = 5 ∨ n.op = 6 ∨ n.op = 7 ∨ n.op = 8 ∨ n.op = 9 by omega) with e | e | e | e | e | e | e | e | e
    ·have hm1 := hm
     unfold manyR at hm1
     rw [if_pos e] at hm1
     simp only [Bool.and_eq_true, decide_eq_true_eq] at hm1
     have hwd : wideR ds n (sumR wide n.ks 0) = (ds.getD n.vr.toNat (.empty, 0)).2 := by unfold wideR; rw [if_pos e]
     rw [hwd] at hw ⊢
     have hn : nodB ds all n = runL n.vr 0 (ds.getD n.vr.toNat (.empty, 0)).2.toNat := by unfold nodB; rw [if_pos e]
     rw [hn]
     refine ⟨by rw [runL_len]; omega, fun p hp => ?_⟩
     obtain ⟨k, hk9, rfl⟩ := List.mem_map.1 hp
     have := List.mem_range.1 hk9
     exact ⟨hv64, .inr ⟨hm1.2.1, by simp only []; omega, by simp only []; omega⟩⟩
    ·have hm1 := hm
     unfold manyR at hm1
     rw [if_neg (by omega), if_pos e] at hm1
     simp only [Bool.and_eq_true, decide_eq_true_eq] at hm1
     have hwd : wideR ds n (sumR wide n.ks 0) = n.bw := by unfold wideR; rw [if_neg (by omega), if_pos e]
     rw [hwd] at hw ⊢
     have hn : nodB ds all n = (List.range n.bw.toNat).map fun k => (-1, (((tb n.ws k).toNat : Nat) : Int)) := by unfold nodB; rw [if_neg (by omega), if_pos e]
     rw [hn]
     refine ⟨by simp; omega, fun p hp => ?_⟩
     obtain ⟨k, hk9, rfl⟩ := List.mem_map.1 hp
     refine ⟨by unfold in64; simp, .inl ⟨rfl, ?_⟩⟩
     cases tb n.ws k <;> simp
    ·have hwd : wideR ds n (sumR wide n.ks 0) = sumR wide n.ks 0 := by unfold wideR; simp [e]
     rw [hwd] at hw ⊢
     have hn : nodB ds all n = (kidsB all n.ks).reverse.flatten := by unfold nodB; simp [e]
     rw [hn]
     refine ⟨?_, fun p hp => ?_⟩
     ·rw [sumB_eq wide ha.nonneg _ _ (Int.le_refl _) hw.2, Int.zero_add, ← kidsB_len ha hk]
      congr 1
      rw [List.length_flatten, List.length_flatten, List.map_reverse, List.sum_reverse]
     ·obtain ⟨l, hl, hp⟩ := List.mem_flatten.1 hp
      obtain ⟨k, hk9, rfl⟩ := List.mem_map.1 (List.mem_reverse.1 hl)
      exact (hkid k hk9).2.2.2 p hp
    ·obtain ⟨k1, k2, k3, k4⟩ := hK (by omega)
     have hwd : wideR ds n (sumR wide n.ks 0) = if n.b < 0 ∨ n.a < n.b ∨ sumR wide n.ks 0 ≤ n.a then -1 else n.a - n.b + 1 := by unfold wideR; simp [e]
     rw [hwd] at hw ⊢
     split at hw
     ·omega
     ·rename_i hc
      rw [if_neg hc]
      have hn : nodB ds all n = (((kidsB all n.ks).getD 0 []).drop n.b.toNat).take (n.a.toNat + 1 - n.b.toNat) := by unfold nodB; simp [e]
      rw [hn]
      refine ⟨by rw [List.length_take, List.length_drop]; omega, fun p hp => k4 p (List.mem_of_mem_drop (List.mem_of_mem_take hp))⟩
    ·obtain ⟨k1, k2, k3, k4⟩ := hK (by omega)
     have hwd : wideR ds n (sumR wide n.ks 0) = if 0 ≤ n.a ∧ n.a ≤ 4096 then sumR wide n.ks 0 + n.a else -1 := by unfold wideR; simp [e]
     rw [hwd] at hw ⊢
     split at hw
     ·rename_i hc
      rw [if_pos hc]
      have hn : nodB ds all n = (kidsB all n.ks).getD 0 [] ++ List.replicate n.a.toNat (-1, 0) := by unfold nodB; simp [e]
      rw [hn]
      refine ⟨by rw [List.length_append, List.length_replicate]; omega, fun p hp => ?_⟩
      rcases List.mem_append.1 hp with hp | hp
      ·exact k4 p hp
      ·rw [(List.mem_replicate.1 hp).2]
       exact ⟨by unfold in64; simp, .inl ⟨rfl, .inl rfl⟩⟩
     ·omega
    ·obtain ⟨k1, k2, k3, k4⟩ := hK (by omega)
     have hwd : wideR ds n (sumR wide n.ks 0) = if 0 ≤ n.a ∧ n.a ≤ 4096 then sumR wide n.ks 0 + n.a else -1 := by unfold wideR; simp [e]
     rw [hwd] at hw ⊢
     split at hw
     ·rename_i hc
      rw [if_pos hc]
      have hn : nodB ds all n = (kidsB all n.ks).getD 0 [] ++ List.replicate n.a.toNat (((kidsB all n.ks).getD 0 []).getD (((kidsB all n.ks).getD 0 []).length - 1) (-1, 0)) := by unfold nodB; simp [e]
      rw [hn]
      refine ⟨by rw [List.length_append, List.length_replicate]; omega, fun p hp => ?_⟩
      rcases List.mem_append.1 hp with hp | hp
      ·exact k4 p hp
      ·rw [(List.mem_replicate.1 hp).2]
       refine k4 _ ?_
       generalize (kidsB all n.ks).getD 0 [] = K at *
       have hl : K.length - 1 < K.length := by omega
       simp [List.getD, hl]
     ·omega
    ·obtain ⟨k1, k2, k3, k4⟩ := hK (by omega)
     have hwd : wideR ds n (sumR wide n.ks 0) = if 0 ≤ n.a ∧ n.a ≤ 4096 then sumR wide n.ks 0 else -1 := by unfold wideR; simp [e]
     rw [hwd] at hw ⊢
     split at hw
     ·rename_i hc
      rw [if_pos hc]
      have hn : nodB ds all n = turnB ((kidsB all n.ks).getD 0 []) (n.a.toNat % ((kidsB all n.ks).getD 0 []).length) := by unfold nodB; simp [e]
      rw [hn, turnB_len]
      exact ⟨k1, fun p hp => k4 p (turnB_mem hp)⟩
     ·omega
    ·obtain ⟨k1, k2, k3, k4⟩ := hK (by omega)
     have hwd : wideR ds n (sumR wide n.ks 0) = if 0 ≤ n.a ∧ n.a ≤ 4096 then sumR wide n.ks 0 else -1 := by unfold wideR; simp [e]
     rw [hwd] at hw ⊢
     split at hw
     ·rename_i hc
      rw [if_pos hc]
      have hn : nodB ds all n = turnB ((kidsB all n.ks).getD 0 []) ((((kidsB all n.ks).getD 0 []).length - n.a.toNat % ((kidsB all n.ks).getD 0 []).length) % ((kidsB all n.ks).getD 0 []).length) := by unfold nodB; simp [e]
      rw [hn, turnB_len]
      exact ⟨k1, fun p hp => k4 p (turnB_mem hp)⟩
     ·omega
    ·obtain ⟨k1, k2, k3, k4⟩ := hK (by omega)
     have hwd : wideR ds n (sumR wide n.ks 0) = if 1 ≤ n.a ∧ n.a ≤ 4096 then sumR wide n.ks 0 * n.a else -1 := by unfold wideR; simp [e]
     rw [hwd] at hw ⊢
     split at hw
     ·rename_i hc
      rw [if_pos hc]
      have hn : nodB ds all n = (List.replicate n.a.toNat ((kidsB all n.ks).getD 0 [])).flatten := by unfold nodB; simp [e]
      rw [hn]
      refine ⟨?_, fun p hp => ?_⟩
      ·rw [List.length_flatten, List.map_replicate, List.sum_replicate_nat]
       obtain ⟨A, hA⟩ : ∃ A : Nat, n.a = (A : Int) := ⟨n.a.toNat, by omega⟩
       rw [hA, Int.toNat_natCast, ← k1]
       push_cast
       rw [Int.mul_comm]
      ·obtain ⟨l, hl, hp⟩ := List.mem_flatten.1 hp
       rw [(List.mem_replicate.1 hl).2] at hp
       exact k4 p hp
     ·omega
   refine ⟨⟨hop, hkid, fun e => ?_, fun e => ?_, fun e => ?_, hone, fun e => ?_, fun e => ?_, fun e => ?_, by omega, key.2⟩, key.1⟩
   ·have hm1 := hm
    unfold manyR at hm1
    rw [if_pos e] at hm1
    simp only [Bool.and_eq_true, decide_eq_true_eq] at hm1
    have hwd : wideR ds n (sumR wide n.ks 0) = (ds.getD n.vr.toNat (.empty, 0)).2 := by unfold wideR; rw [if_pos e]
    rw [hwd] at hw
    exact ⟨by omega, hw⟩
   ·have hm1 := hm
    unfold manyR at hm1
    rw [if_neg (by omega), if_pos e] at hm1
    simp only [Bool.and_eq_true, decide_eq_true_eq] at hm1
    exact hm1.2
   ·have hm1 := hm
    unfold manyR at hm1
    rw [if_neg (by omega), if_neg (by omega), if_pos e] at hm1
    simpa using hm1
   ·have h9 := hw
    unfold wideR at h9
    simp only [e] at h9
    have k1 := (hK (by omega)).1
    simp at h9
    split at h9
    ·omega
    ·omega
   ·have h9 := hw
    unfold wideR at h9
    rw [if_neg (by omega), if_neg (by omega), if_neg (by omega)] at h9
    split at h9
    ·split at h9 <;> omega
    ·split at h9
     ·split at h9 <;> omega
     ·rw [if_pos (by omega)] at h9
      split at h9 <;> omega
   ·have h9 := hw
    unfold wideR at h9
    simp only [e] at h9
    simp at h9
    split at h9 <;> omega
  ·cases hs
 ·cases hs

def bitsN (ds : List Dc) : List (List Ib) → List Tc → List (List Ib)
 | all, [] => all
 | all, n :: t => bitsN ds (all ++ [nodB ds all n]) t
theorem bitsN_app (ds : List Dc) : ∀ (a b : List Tc) (all : List (List Ib)), bitsN ds all (a ++ b) = bitsN ds (bitsN ds all a) b
 | [], b, all => rfl
 | n :: t, b, all => by
  rw [List.cons_append, bitsN, bitsN]
  exact bitsN_app ds t b _
theorem bitsN_next (ds : List Dc) {ns : List Tc} {k : Nat} {n : Tc} (h : ns[k]? = some n) (all : List (List Ib)) : bitsN ds all (ns.take (k + 1)) = bitsN ds all (ns.take k) ++ [nodB ds (bitsN ds all (ns.take k)) n] := by
 rw [List.take_add_one, h, Option.toList_some, bitsN_app]
 rfl
theorem bitsN_len (ds : List Dc) : ∀ (ns : List Tc) (all : List (List Ib)), (bitsN ds all ns).length = all.length + ns.length
 | [], all => by simp [bitsN]
 | n :: t, all => by
  rw [bitsN, bitsN_len ds t]
  simp
  omega
theorem bitsN_mem (ds : List Dc) : ∀ (ns : List Tc) (all : List (List Ib)) (y : List Ib), y ∈ all → y ∈ bitsN ds all ns
 | [], all, y, h => h
 | n :: t, all, y, h => by
  rw [bitsN]
  exact bitsN_mem ds t _ y (List.mem_append.2 (.inl h))
theorem goR_at {ds : List Dc} : ∀ (ns : List Tc) (wide W : List Int), goR ds wide ns = some W → W.take wide.length = wide ∧ W.length = wide.length + ns.length ∧ ∀ i n, ns[i]? = some n → stepR ds (W.take (wide.length + i)) n = some (W.getD (wide.length + i) 0)
 | [], wide, W, h => by
  rw [goR] at h
  obtain rfl := Option.some.inj h
  exact ⟨List.take_length, by simp, fun i n hn => by simp at hn⟩
 | n :: t, wide, W, h => by
  rw [goR] at h
  cases hs : stepR ds wide n with
  | none => rw [hs] at h; cases h
  | some v =>
   rw [hs] at h
   obtain ⟨h1, h2, h3⟩ := goR_at t (wide ++ [v]) W h
   rw [List.length_append, List.length_singleton] at h1 h2 h3
   have hl : wide.length < W.length := by omega
   have e1 : W.take wide.length = wide := by
    have := congrArg (List.take wide.length) h1
    rw [List.take_take, Nat.min_eq_left (by omega), List.take_left'] at this
    ·exact this
    ·rfl
   have e2 : W.getD wide.length 0 = v := by
    have h9 : (W.take (wide.length + 1))[wide.length]? = some v := by rw [h1]; simp
    rw [List.getElem?_take, if_pos (by omega)] at h9
    simp [List.getD, h9]
   refine ⟨e1, by simp; omega, fun i m hm => ?_⟩
   cases i with
   | zero =>
    simp at hm
    subst hm
    rw [Nat.add_zero, e1, e2]
    exact hs
   | succ i =>
    simp at hm
    have := h3 i m hm
    rw [show wide.length + 1 + i = wide.length + (i + 1) by omega] at this
    exact this
theorem right_at {ds : List Dc} {ns : List Tc} (h : ¬ (widthsR ds ns).length = 0) (hv : ∀ n ∈ ns, in64 n.vr) : dclR ds = true ∧ 1 ≤ ns.length ∧ ns.length ≤ 400 ∧ (∀ k, k ≤ ns.length → AheadB ((widthsR ds ns).take k) (bitsN ds [] (ns.take k))) ∧ ∀ k n, ns[k]? = some n → FNode ds (bitsN ds [] (ns.take k)) n := by
 unfold widthsR at h ⊢
 split at h
 ·rename_i hc
  rw [if_pos hc]
  simp only [Bool.and_eq_true, decide_eq_true_eq] at hc
  cases hg : goR ds [] ns with
  | none => rw [hg] at h; simp at h
  | some W =>
   rw [hg] at h
   simp only [] at h ⊢
   split at h
   ·rename_i hu
    rw [if_pos hu]
    obtain ⟨-, h2, h3⟩ := goR_at ns [] W hg
    simp only [List.length_nil, Nat.zero_add] at h2 h3
    have key : ∀ k, k ≤ ns.length → AheadB (W.take k) (bitsN ds [] (ns.take k)) := fun k => by
     induction k with
     | zero => intro _; simp [bitsN]; exact AheadB.nil
     | succ k ih =>
      intro hk
      have hn : ns[k]? = some (ns[k]'(by omega)) := List.getElem?_eq_getElem _
      have hA := ih (by omega)
      have hst := h3 k _ hn
      obtain ⟨f1, f2⟩ := nodB_ok hA hc.1.1 (hv _ (List.mem_of_getElem? hn)) hst
      rw [bitsN_next ds hn, List.take_add_one, List.getElem?_eq_getElem (show k < W.length by omega), Option.toList_some]
      have e : W.getD k 0 = W[k]'(by omega) := by simp [List.getD, show k < W.length by omega]
      rw [e] at f2
      have hl := f1.len
      exact hA.push f2 (by omega) f1.ok
    refine ⟨hc.1.1, hc.1.2, hc.2, key, fun k n hn => ?_⟩
    have hk := (List.getElem?_eq_some_iff.1 hn).1
    exact (nodB_ok (key k (by omega)) hc.1.1 (hv n (List.mem_of_getElem? hn)) (h3 k n hn)).1
   ·simp at h
 ·simp at h
def fltR (ds : List Dc) (ns : List Tc) : List Sc × Bool :=
 if (widthsR ds ns).length = 0 then ([], false)
 else if (bitsN ds [] ns).all (fun l => decide ((formB l).length ≤ 2000)) = true then (formB ((bitsN ds [] ns).getD (ns.length - 1) []), true) else ([], false)


structure Nb (w : World) (cs : Array Value) (v : Value) (l : List Ib) (wr : World) : Prop where
 bx : Bz wr w.heap.size cs 88
 row : OL5 wr (w.heap.size + 1) v l
 bel : Below w.heap.size w wr
theorem bz_ol5 {w w' : World} {b B : Nat} {v : Value} {l : List Ib} {cs : Array Value} {t : TypeId} (hb : Bz w b cs t) (h : OL5 w B v l) (ht : t ≠ 74) (hg : w.grownBy w' v.ownBlock) : Bz w' b cs t := by
 unfold Bz at hb ⊢
 rw [hg.block b (lt_of_block hb) (fun e => by
  obtain ⟨cur, hc⟩ := h.typed e.symm
  rw [hb] at hc
  cases hc
  exact ht rfl)]
 exact hb
theorem Nb.later {w wr u : World} {cs : Array Value} {v : Value} {l : List Ib} (h : Nb w cs v l wr) (hb : Below wr.heap.size wr u) : Nb w cs v l u := ⟨h.bx.later hb, h.row.later hb, h.bel.trans (hb.mono h.bel.size)⟩
theorem Nb.app {w u w' : World} {cs : Array Value} {v v' : Value} {l m : List Ib} (h : Nb w cs v l u) (ho : OL5 w' (w.heap.size + 1) v' (l ++ m)) (hg : u.grownBy w' v.ownBlock) : Nb w cs v' (l ++ m) w' := by
 refine ⟨bz_ol5 h.bx h.row (by decide) hg, ho, h.bel.trans ⟨hg.os, hg.tape, hg.output, hg.size, fun k hk => hg.block k (Nat.lt_of_lt_of_le hk h.bel.size) (fun e => ?_)⟩⟩
 have := (h.row.lt e.symm).1
 omega
theorem OL5.lowB {w : World} {B B' : Nat} {v : Value} {l : List Ib} (h : OL5 w B v l) (hB : B' ≤ B) : OL5 w B' v l := by
 obtain ⟨h1, h2⟩ := h
 refine ⟨h1, ?_⟩
 rcases h2 with h2 | ⟨g, cap, cur, rfl, hg, hh, r⟩
 ·exact .inl h2
 ·exact .inr ⟨g, cap, cur, rfl, by omega, hh, r⟩
def RetNb (L : List Ib) (w : World) (e : Ending) (w' : World) : Prop := ∃ v, e = .returned v ∧ OL5 w' w.heap.size v L ∧ Below w.heap.size w w'
theorem Nb.start (w : World) (cs : Array Value) : Nb w cs (.slice (some ⟨w.heap.size + 1, 0, none⟩) 0 0) [] ((w.alloc (Obj.cells cs 88)).alloc (Obj.cells #[] 74)) := by
 refine ⟨(Bz.new w _ _).later ((Below.refl _ _).alloc (Nat.le_refl _) _), ?_, ((Below.refl _ _).alloc (Nat.le_refl _) _).alloc (by simp) _⟩
 have h9 := OL5.empty (w.alloc (Obj.cells cs 88)) (w.heap.size + 1) (by simp)
 rw [World.size_alloc] at h9
 exact h9
theorem runL_snoc (v a : Int) (k : Nat) : runL v a (k + 1) = runL v a k ++ [(v, a + (k : Int))] := by simp [runL, List.range_succ]
set_option maxHeartbeats 2000000 in
set_option maxRecDepth 100000 in
theorem l5n1 {da wa ka aa : Option Addr} {dc nd nw wc nk kc na ac V : Nat} {ds : List Dc} {A Bb bw : Int} {w : World} (hd : RdD w da ds) (hnd : ds.length = nd) (hV : V < nd) (h1 : 1 ≤ (ds.getD V (.empty, 0)).2) (h2 : (ds.getD V (.empty, 0)).2 ≤ 4096) :
  Calls Try.prog 49 #[.slice da nd dc, .agg #[.int .i64 1, .int .i64 (V : Int), .int .i64 A, .int .i64 Bb, .int .i64 bw, .slice wa nw wc, .slice ka nk kc], .slice aa na ac] w (RetNb (runL (V : Int) 0 (ds.getD V (.empty, 0)).2.toNat) w) := by
 obtain ⟨db, dq, rfl, hdc⟩ : ∃ b o, da = some ⟨b, o, none⟩ ∧ DcAt w b (o + V * 2) (ds.getD V (.empty, 0)) := by
  rcases hd.2.2 with h9 | ⟨b, o, e, hc⟩
  ·rw [h9] at hnd; simp at hnd; omega
  ·refine ⟨b, o, e, hc V _ ?_⟩
   have hl : V < ds.length := by omega
   simp [List.getD, hl]
 obtain ⟨-, d1⟩ := hdc
 obtain ⟨E, hE⟩ : ∃ E : Nat, (ds.getD V (.empty, 0)).2 = (E : Int) := ⟨(ds.getD V (.empty, 0)).2.toNat, by omega⟩
 rw [hE] at d1 h1 h2 ⊢
 rw [Int.toNat_natCast]
 have ldb := block_lt_of_cell d1
 have S0 := kide (Nb.start w #[.int .i64 1, .int .i64 (V : Int), .int .i64 A, .int .i64 Bb, .int .i64 bw, .slice wa nw wc, .slice ka nk kc])
 have q1 : (V : Int) < (nd : Int) := by omega
 have q2 : (V : Int) ≥ 0 := by omega
 clear hd hnd hE
 go_enter Try.func49, Try.ntmps49
 go_wp2_with fail
 go_loopw [7, 8] (fun v i wr => ∃ k : Nat, k ≤ E ∧ i = .int .i64 (k : Int) ∧ Nb w #[.int .i64 1, .int .i64 (V : Int), .int .i64 A, .int .i64 Bb, .int .i64 bw, .slice wa nw wc, .slice ka nk kc] v (runL (V : Int) 0 k) wr) (fun _ i _ => E - (intOf i).toNat)
 case atStart => exact ⟨0, Nat.zero_le _, rfl, by simpa [runL] using S0.out⟩
 case round =>
  obtain ⟨k, hk, rfl, hnb⟩ := hrel
  have c1 := hnb.bx.cell 1
  simp at c1
  have c9 := (hnb.bel.cell (p := ⟨db, dq + V * 2 + 1, none⟩) ldb).trans d1
  have HNB := kide hnb
  have lbx := hnb.bx.lt
  clear hnb
  by_cases hlt : k < E
  ·have q3 : (k : Int) < (E : Int) := by omega
   have hkw : IntKind.i64.wrap ((k : Int) + 1) = (k : Int) + 1 := by rw [IntKind.wrap_i64]; omega
   have BA : Hid (Below wr.heap.size wr (wr.alloc (Obj.cells #[.int .i64 (V : Int), .int .i64 (k : Int)] 74))) := (Below.refl _ _).alloc (Nat.le_refl _) _
   have XA := kide (Bz.new wr #[.int .i64 (V : Int), .int .i64 (k : Int)] 74)
   have NA := kide (HNB.out.later BA.out)
   have hll : (runL (V : Int) 0 k).length ≤ 1073741824 := by simp [runL]; omega
   have hsz : w.heap.size + 1 ≤ (wr.alloc (Obj.cells #[.int .i64 (V : Int), .int .i64 (k : Int)] 74)).heap.size := by simp; omega
   go_wp2_with (refine wpList_appL5 rfl _ _ rfl (w.heap.size + 1) _ (runL (V : Int) 0 k) ((V : Int), (k : Int)) rfl NA.out.row wr.heap.size _ rfl (XA.out.cell 0) (XA.out.cell 1) hll hsz ?_)
   intro g6 c6 w6 ho6 hg6
   have N6 := kide (NA.out.app ho6 hg6)
   rw [show runL (V : Int) 0 k ++ [((V : Int), (k : Int))] = runL (V : Int) 0 (k + 1) by rw [runL_snoc, Int.zero_add]] at N6
   clear ho6 hg6
   go_wp2_with fail
   go_roundw
   case rel => exact ⟨k + 1, by omega, rfl, N6.out⟩
   case measure => simp only [intOf]; omega
  ·obtain rfl : k = E := by omega
   go_wp2_with fail
   exact bodyPost_ret (v := u7) (by simp [results, Try.results49, go_sem]) rfl ⟨u7, rfl, HNB.out.row.lowB (Nat.le_succ _), HNB.out.bel⟩
set_option maxHeartbeats 2000000 in
set_option maxRecDepth 100000 in
theorem l5n2 {da wa ka aa : Option Addr} {dc nd wc nk kc na ac E : Nat} {ws : List Nat} {vr A Bb : Int} {w : World} (hw : Rd w wa ws) (hr : rightB (E : Int) ws = true) :
  Calls Try.prog 49 #[.slice da nd dc, .agg #[.int .i64 2, .int .i64 vr, .int .i64 A, .int .i64 Bb, .int .i64 (E : Int), .slice wa ws.length wc, .slice ka nk kc], .slice aa na ac] w (RetNb ((List.range E).map fun k => (-1, (((tb ws k).toNat : Nat) : Int))) w) := by
 have hW := right_W hr
 obtain ⟨nw, hnw⟩ : ∃ n, ws.length = n := ⟨_, rfl⟩
 rw [hnw]
 have HNW := kide hnw
 have HW := kide hw
 have S0 := kide (Nb.start w #[.int .i64 2, .int .i64 vr, .int .i64 A, .int .i64 Bb, .int .i64 (E : Int), .slice wa nw wc, .slice ka nk kc])
 have HB := kide (fun (k : Nat) (hk : k < E) u (hu : Below w.heap.size w u) => l1Bit_any (E : Int) wa wc ws k u (hw.later hu) (by omega))
 rw [hnw] at HB
 clear hw hnw
 have hE : E ≤ 4096 := by omega
 clear hW
 go_enter Try.func49, Try.ntmps49
 go_wp2_with fail
 go_loopw [7, 9] (fun v i wr => ∃ k : Nat, k ≤ E ∧ i = .int .i64 (k : Int) ∧ Nb w #[.int .i64 2, .int .i64 vr, .int .i64 A, .int .i64 Bb, .int .i64 (E : Int), .slice wa nw wc, .slice ka nk kc] v ((List.range k).map fun k => (-1, (((tb ws k).toNat : Nat) : Int))) wr) (fun _ i _ => E - (intOf i).toNat)
 case atStart => exact ⟨0, Nat.zero_le _, rfl, by simpa using S0.out⟩
 case round =>
  obtain ⟨k, hk, rfl, hnb⟩ := hrel
  have c4 := hnb.bx.cell 4
  have c5 := hnb.bx.cell 5
  simp at c4 c5
  have HNB := kide hnb
  have lbx := hnb.bx.lt
  clear hnb
  by_cases hlt : k < E
  ·have q3 : (k : Int) < (E : Int) := by omega
   have hkw : IntKind.i64.wrap ((k : Int) + 1) = (k : Int) + 1 := by rw [IntKind.wrap_i64]; omega
   have HB1 := kide (HB.out k hlt wr HNB.out.bel)
   have hsn : (List.range (k + 1)).map (fun k => ((-1, (((tb ws k).toNat : Nat) : Int)) : Ib)) = (List.range k).map (fun k => (-1, (((tb ws k).toNat : Nat) : Int))) ++ [(-1, (((tb ws k).toNat : Nat) : Int))] := by rw [List.range_succ, List.map_append]; rfl
   have htb : (tb ws k).toNat ≤ 1 := by cases tb ws k <;> simp
   generalize (tb ws k).toNat = t at *
   have HSN := kide hsn
   have hll : ((List.range k).map fun k => ((-1, (((tb ws k).toNat : Nat) : Int)) : Ib)).length ≤ 1073741824 := by simp; omega
   generalize (List.range k).map (fun k => ((-1, (((tb ws k).toNat : Nat) : Int)) : Ib)) = Lk at *
   have htw : IntKind.i64.wrap (t : Int) = (t : Int) := by rw [IntKind.wrap_i64]; omega
   clear hsn
   go_wp2_with fail
   refine Calls.mono HB1.out ?_
   rintro e w1 ⟨rfl, hb1⟩
   have N1 := kide (HNB.out.later hb1)
   have BA : Hid (Below w1.heap.size w1 (w1.alloc (Obj.cells #[.int .i64 (-1), .int .i64 (t : Int)] 74))) := (Below.refl _ _).alloc (Nat.le_refl _) _
   have XA := kide (Bz.new w1 #[.int .i64 (-1), .int .i64 (t : Int)] 74)
   have NA := kide (N1.out.later BA.out)
   have hsz : w.heap.size + 1 ≤ (w1.alloc (Obj.cells #[.int .i64 (-1), .int .i64 (t : Int)] 74)).heap.size := by have := N1.out.bx.lt; simp; omega
   clear hb1
   go_wp2_with (refine wpList_appL5 rfl _ _ rfl (w.heap.size + 1) _ Lk (-1, (t : Int)) rfl NA.out.row w1.heap.size _ rfl (XA.out.cell 0) (XA.out.cell 1) hll hsz ?_)
   intro g6 c6 w6 ho6 hg6
   have N6 := kide (NA.out.app ho6 hg6)
   rw [← HSN.out] at N6
   clear ho6 hg6
   go_wp2_with fail
   go_roundw
   case rel => exact ⟨k + 1, by omega, rfl, N6.out⟩
   case measure => simp only [intOf]; omega
  ·obtain rfl : k = E := by omega
   go_wp2_with fail
   exact bodyPost_ret (v := u7) (by simp [results, Try.results49, go_sem]) rfl ⟨u7, rfl, HNB.out.row.lowB (Nat.le_succ _), HNB.out.bel⟩
theorem flt_ok (ds : List Dc) (ns : List Tc) (hv : ∀ n ∈ ns, in64 n.vr) : (∀ s ∈ (fltR ds ns).1, okF s) ∧ (fltR ds ns).1.length ≤ 2000 := by
 unfold fltR
 split
 ·simp
 ·rename_i h0
  split
  ·rename_i hall
   obtain ⟨-, hn1, -, hA, -⟩ := right_at h0 hv
   have hb := hA ns.length (Nat.le_refl _)
   rw [List.take_length] at hb
   have hlen : (bitsN ds [] ns).length = ns.length := by rw [bitsN_len]; simp
   have hlt : ns.length - 1 < (bitsN ds [] ns).length := by omega
   obtain ⟨h1, h2, h3, h4⟩ := hb.ok (ns.length - 1) hlt
   have hm : (bitsN ds [] ns).getD (ns.length - 1) [] ∈ bitsN ds [] ns := by simp [List.getD, hlt]
   have hl := List.all_eq_true.1 hall _ hm
   simp only [decide_eq_true_eq] at hl
   refine ⟨formB_ok _ _ (Nat.le_refl _) (by omega) (fun p hp => ?_), hl⟩
   have h9 := h4 p hp
   refine ⟨h9.1, ?_⟩
   unfold in64
   rcases h9.2 with h | h
   ·omega
   ·omega
  ·simp
theorem RdT.v64 {w : World} {a : Option Addr} {xs : List Tg} (hs : RdT w a xs) : ∀ m ∈ xs.map Tg.ct, in64 m.vr := fun m hm => by
 obtain ⟨x, hx, rfl⟩ := List.mem_map.1 hm
 obtain ⟨i, hi⟩ := List.getElem?_of_mem hx
 rcases hs.2 with h0 | ⟨b, o, -, hc⟩
 ·rw [h0] at hi; simp at hi
 ·exact (hc i x hi).2.2.2.2.1
end Go.Proofs.Ytffcklobignlfaa
