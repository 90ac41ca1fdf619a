/- Several texts in one. -/
import Derived.Test.YtnpjgoklpaigjaaGreatDoorRFW
import Derived.Test.YtnpjgoklpaigjaaGreatDoorGAI
import Derived.Test.YtnpjgoklpaigjaaGreatDoorGAB
import Derived.Test.YtnpjgoklpaigjaaGreatDoorGAG
import Derived.Handy
import Derived.Test.YtnpjgoklpaigjaaGreatDoorRXI
namespace Go.Proofs.YtnpjgoklpaigjaaGreatDoor
open Go.RowKit
set_option linter.unusedVariables false
set_option linter.unusedSimpArgs false
def sgV (x : Sg) : Value := .agg #[.int .i64 x.ct.v, .int .i64 x.ct.lo, .int .i64 x.ct.wd, .int .i64 x.ct.bw, .slice x.a x.ct.ws.length x.c]
def RdyS (B : Nat) (L : List Sc) (T : Nat) (pre : List Sg) (x : Sg) (W : World) : Prop := (pre ++ [x]).map Sg.ct <+: L ∧ Rd W x.a x.ct.ws ∧ (x.a = none → x.c = 0) ∧ ∀ p, x.a = some p → (p.block < B ∨ T ≤ p.block) ∧ p.block < W.heap.size
abbrev SeqS (n : Nat) (g : Nat) (lb : Array Value) (L : List Sc) (B : Nat) (w : World) : Prop :=
 SeqW Fence.wide n Tryz.prog g lb (fun x => #[sgV x]) (Below B) (RdyS B L) (fun xs => xs.map Sg.ct = L) (fun pre => pre.map Sg.ct <+: L) w
theorem cz_bz {W W' : World} {b : Nat} {cs : Array Value} {t : TypeId} (h : Bz W b cs t) (hc : Cz W W') : Bz W' b cs t := hc.2 b _ h rfl
theorem cz_rd {W W' : World} {a : Option Addr} {xs : List Nat} (h : Rd W a xs) (hc : Cz W W') : Rd W' a xs := by
 obtain ⟨h1, h2, h3⟩ := h
 refine ⟨h1, h2, ?_⟩
 rcases h3 with h3 | ⟨b, o, rfl, hcell⟩
 ·exact .inl h3
 ·refine .inr ⟨b, o, rfl, fun i hi => ?_⟩
  have h9 := hcell i hi
  have hl := block_lt_of_cell h9
  have hb : W'.heap[b]? = W.heap[b]? := by
   obtain ⟨ob, hob⟩ : ∃ ob, W.heap[b]? = some ob := ⟨_, Array.getElem?_eq_getElem hl⟩
   rw [hob]
   refine hc.2 b ob hob ?_
   cases ob with
   | cells cs t fr => rfl
   | _ => simp [World.cell?, hob] at h9
  rw [World.cell?_of_block (a := ⟨b, o + i, none⟩) hb]
  exact h9
theorem cz_own {W W' : World} {B n : Nat} {e : TypeId} {s : Nat} {v : Value} {xs : List Value} (h : W.ownsRow B e s v n xs) (hc : Cz W W') : W'.ownsRow B e s v n xs := by
 obtain ⟨h1, h2⟩ := h
 refine ⟨h1, ?_⟩
 rcases h2 with h2 | ⟨g, cap, cur, rfl, hg, hh, r⟩
 ·exact .inl h2
 ·exact .inr ⟨g, cap, cur, rfl, hg, hc.2 g _ hh rfl, r⟩
theorem cz_grown {W W' : World} {row : Option Nat} (hg : W.grownBy W' row) (hr : ∀ r, row = some r → ∃ o : Obj, W.heap[r]? = some o ∧ o.isCells = false) : Cz W W' :=
 ⟨hg.size, fun k o hk hc => (hg.block k (Array.getElem?_eq_some_iff.1 hk).1 (fun e => by
  obtain ⟨o', ho', hn⟩ := hr k e.symm
  rw [hk] at ho'
  cases ho'
  rw [hc] at hn
  cases hn)).trans hk⟩
theorem mid_get {F : List Sc} {a s : Sc} {i : Nat} (h : (F ++ [a])[i]? = some s) : (i < F.length ∧ F[i]? = some s) ∨ (i = F.length ∧ s = a) := by
 rcases Nat.lt_trichotomy i F.length with h1 | h1 | h1
 ·rw [List.getElem?_append_left h1] at h
  exact .inl ⟨h1, h⟩
 ·subst h1
  simp at h
  exact .inr ⟨rfl, h.symm⟩
 ·rw [List.getElem?_eq_none (by simp; omega)] at h
  cases h
theorem Nf.one {b : Sc} (hb : okS b) : Nf [b] := ⟨by simpa using hb, fun i s t h1 h2 => by simp at h2⟩
theorem Nf.snoc {F : List Sc} {a b : Sc} (h : Nf (F ++ [a])) (hb : okS b) (hn : oneB a b = false) : Nf (F ++ [a] ++ [b]) := by
 refine ⟨fun s hs => ?_, fun i s t h1 h2 => ?_⟩
 ·rcases List.mem_append.1 hs with hs | hs
  ·exact h.ok s hs
  ·rw [List.mem_singleton.1 hs]; exact hb
 ·rcases mid_get h2 with ⟨h3, h4⟩ | ⟨h3, rfl⟩
  ·rcases mid_get h1 with ⟨h5, h6⟩ | ⟨h5, h6⟩
   ·exact h.ap i s t h6 h4
   ·omega
  ·rcases mid_get h1 with ⟨h5, h6⟩ | ⟨h5, h6⟩
   ·have : i = F.length := by simp at h3; omega
    subst this
    simp at h6
    subst h6
    exact hn
   ·omega
theorem Nf.last {F : List Sc} {a b : Sc} (h : Nf (F ++ [a])) (hb : okS (oneS a b)) : Nf (F ++ [oneS a b]) := by
 refine ⟨fun s hs => ?_, fun i s t h1 h2 => ?_⟩
 ·rcases List.mem_append.1 hs with hs | hs
  ·exact h.ok s (by simp [hs])
  ·rw [List.mem_singleton.1 hs]; exact hb
 ·rcases mid_get h2 with ⟨h3, h4⟩ | ⟨h3, rfl⟩
  ·rcases mid_get h1 with ⟨h5, h6⟩ | ⟨h5, h6⟩
   ·exact h.ap i s t (by rw [List.getElem?_append_left h5]; exact h6) (by rw [List.getElem?_append_left h3]; exact h4)
   ·omega
  ·rcases mid_get h1 with ⟨h5, h6⟩ | ⟨h5, h6⟩
   ·have h9 := h.ap i s a (by rw [List.getElem?_append_left h5]; exact h6) (by rw [h3]; simp)
    rcases oneS_on (a := a) (b := b) (c := s) with h8 | h8
    ·rw [h8]; exact h9
    ·rw [h8.2]; exact h9
   ·omega
theorem formP_one {F : List Sc} {a b : Sc} (ha : okS a) (hb : okS b) (ho : oneB a b = true) : formP (F ++ [oneS a b]) = formP (F ++ [a]) ++ formP [b] := by
 rw [formP_app, formP_app]
 have h1 : formP [oneS a b] = segPs (oneS a b) (oneS a b).wd.toNat := by simp [formP]
 have h2 : formP [a] = segPs a a.wd.toNat := by simp [formP]
 have h3 : formP [b] = segPs b b.wd.toNat := by simp [formP]
 rw [h1, h2, h3, oneS_P ha hb ho, List.append_assoc]
theorem two_wide {L : List Sc} {F pre : List Sc} {a b : Sc} (hL : ∀ s ∈ L, okS s) (hs : sumS L ≤ 4096) (hF : ∀ s ∈ F ++ [a], okS s) (hp : formP (F ++ [a]) = formP pre) (hpre : pre ++ [b] <+: L) : a.wd + b.wd ≤ 4096 := by
 obtain ⟨r, hr⟩ := hpre
 have hb : okS b := hL b (by rw [← hr]; simp)
 have h1 := formP_len (F ++ [a]) (fun s hs => by have := (hF s hs).1; omega)
 have h2 := formP_len L (fun s hs => by have := (hL s hs).1; omega)
 have h3 : formP L = formP pre ++ formP [b] ++ formP r := by rw [← hr, formP_app, formP_app]
 have h4 : (formP [b]).length = b.wd.toNat := by simp [formP, segPs_len]
 rw [h3, ← hp] at h2
 simp only [List.length_append] at h2
 rw [sumS_append] at h1
 have h5 : sumS [a] = a.wd := by simp [sumS]
 have h6 : 0 ≤ sumS F := by
  have := formP_len F (fun s hs => by have := (hF s (by simp [hs])).1; omega)
  omega
 have := hb.1
 omega

structure Gi (w : World) (b : Nat) (L : List Sc) (pre : List Sg) (ow : Bool) (v : Value) (l : List Sg) (W : World) : Prop where
 r0 : Bz W b #[.slice none 0 0] 45
 r1 : Bz W (b + 1) #[.bool false] 4
 fx : Bz W (b + 1 + 1) #[v] 45
 ox : Bz W (b + 1 + 1 + 1) #[.bool ow] 4
 row : OS5 W b v l
 nf : Nf (l.map Sg.ct)
 bits : formP (l.map Sg.ct) = formP (pre.map Sg.ct)
 lo : ∀ x ∈ l, 0 ≤ x.ct.lo ∧ x.ct.lo ≤ 4096
 len : l.length ≤ 2000
 rd : ∀ x ∈ l, Rd W x.a x.ct.ws
 no : ∀ x ∈ l, x.a = none → x.c = 0
 pl : ∀ x ∈ l, ∀ p, x.a = some p → p.block < W.heap.size
 own : ow = true → ∃ (l' : List Sg) (x : Sg), l = l' ++ [x] ∧ OwW W b (.slice x.a x.ct.ws.length x.c) x.ct.ws ∧ ∀ y ∈ l', ∀ p q, x.a = some p → y.a = some q → p.block ≠ q.block
 ra : ∀ x ∈ l, ∀ p, x.a = some p → v.ownBlock ≠ some p.block
 pre : pre.map Sg.ct <+: L
 bel : Below b w W
theorem Gi.cz {w : World} {b : Nat} {L : List Sc} {pre : List Sg} {ow : Bool} {v : Value} {l : List Sg} {W W' : World} (h : Gi w b L pre ow v l W) (hc : Cz W W') (hb : Below b w W') : Gi w b L pre ow v l W' :=
 ⟨cz_bz h.r0 hc, cz_bz h.r1 hc, cz_bz h.fx hc, cz_bz h.ox hc, cz_own h.row hc, h.nf, h.bits, h.lo, h.len, fun x hx => cz_rd (h.rd x hx) hc, h.no, fun x hx p hp => Nat.lt_of_lt_of_le (h.pl x hx p hp) hc.1, fun e => by
  obtain ⟨l', x, h1, h2, h3⟩ := h.own e
  exact ⟨l', x, h1, cz_own h2 hc, h3⟩, h.ra, h.pre, hb⟩
theorem Gi.later {w : World} {b : Nat} {L : List Sc} {pre : List Sg} {ow : Bool} {v : Value} {l : List Sg} {W W' : World} (h : Gi w b L pre ow v l W) (hb : Below W.heap.size W W') (hbw : b ≤ W.heap.size) : Gi w b L pre ow v l W' :=
 h.cz (Cz.below hb) (h.bel.trans (hb.mono hbw))

def cutS (s : Sc) (p m : Nat) : Sc := if (m : Int) = s.wd then s else if s.v = -1 then ⟨-1, 0, m, m, pack (((bitsTo s.ws s.bw.toNat).drop p).take m)⟩ else ⟨s.v, s.lo + p, m, 0, []⟩
def betS (lo en : Nat) : Nat → List Sc → List Sc
 | _, [] => []
 | f, s :: t => (if max f lo < min (f + s.wd.toNat) en then [cutS s (max f lo - f) (min (f + s.wd.toNat) en - max f lo)] else []) ++ betS lo en (f + s.wd.toNat) t
theorem cutS_wd (s : Sc) (p m : Nat) : (cutS s p m).wd = m := by
 unfold cutS
 split
 ·rename_i h; exact h.symm
 ·split <;> rfl
theorem range_drop_take {β : Type} (f : Nat → β) (N p m : Nat) (h : p + m ≤ N) : (((List.range N).map f).drop p).take m = (List.range m).map fun k => f (p + k) := by
 apply List.ext_getElem?
 intro i
 by_cases hi : i < m
 ·rw [List.getElem?_take, if_pos hi, List.getElem?_drop]
  simp [hi, show p + i < N by omega]
 ·rw [List.getElem?_eq_none (by simp; omega), List.getElem?_eq_none (by simp; omega)]
theorem tb_cut (ws : List Nat) (V p m k : Nat) (h : p + m ≤ V) (hk : k < m) : tb (pack (((bitsTo ws V).drop p).take m)) k = tb ws (p + k) := by
 rw [tb_pack _ (fun x hx => bitsTo_le ws V x (List.mem_of_mem_drop (List.mem_of_mem_take hx))), List.getD, List.getElem?_take, if_pos hk, List.getElem?_drop]
 have := bits_getD3 ws V (p + k) (by omega)
 simp only [List.getD] at this
 rw [this]
 cases tb ws (p + k) <;> rfl
theorem cut_len (ws : List Nat) (V p m : Nat) (h : p + m ≤ V) : (((bitsTo ws V).drop p).take m).length = m := by
 rw [List.length_take, List.length_drop, bitsTo_len]
 omega
theorem cutS_ok {s : Sc} {p m : Nat} (h : okS s) (hm : 1 ≤ m) (hp : (p : Int) + m ≤ s.wd) : okS (cutS s p m) := by
 have h1 := h.2.1
 unfold cutS
 split
 ·exact h
 ·split
  ·rename_i e
   refine ⟨by simp only []; omega, by simp only []; omega, fun y hy => pack_lt _ y hy, .inl ⟨rfl, rfl, rfl, ?_⟩⟩
   have hb : s.bw = s.wd := by
    rcases h.2.2.2 with h9 | h9
    ·exact h9.2.2.1
    ·omega
   have h8 := cut_len s.ws s.bw.toNat p m (by omega)
   have := pack_right (((bitsTo s.ws s.bw.toNat).drop p).take m) (fun x hx => bitsTo_le _ _ x (List.mem_of_mem_drop (List.mem_of_mem_take hx))) (by omega) (by omega)
   rw [h8] at this
   exact this
  ·rename_i e
   have hv : 0 ≤ s.v := by
    rcases h.2.2.2 with h9 | h9
    ·exact absurd h9.1 e
    ·exact h9.1
   exact ⟨by simp only []; omega, by simp only []; omega, by simp, .inr ⟨hv, rfl, rfl⟩⟩
theorem cutS_lo {s : Sc} {p m : Nat} (h : 0 ≤ s.lo ∧ s.lo + s.wd ≤ 4096) (hm : 1 ≤ m) (hp : (p : Int) + m ≤ s.wd) : 0 ≤ (cutS s p m).lo ∧ (cutS s p m).lo ≤ 4096 := by
 unfold cutS
 split
 ·omega
 ·split
  ·simp
  ·simp only []; omega
theorem cutS_P {s : Sc} {p m : Nat} (h : okS s) (hm : 1 ≤ m) (hp : (p : Int) + m ≤ s.wd) : segPs (cutS s p m) m = ((segPs s s.wd.toNat).drop p).take m := by
 have h1 := h.1
 unfold cutS
 split
 ·rename_i e
  have e2 : p = 0 := by omega
  subst e2
  rw [List.drop_zero, ← e, Int.toNat_natCast, List.take_of_length_le (by rw [segPs_len]; omega)]
 ·split
  ·rename_i e
   have hb : s.bw = s.wd := by
    rcases h.2.2.2 with h9 | h9
    ·exact h9.2.2.1
    ·omega
   rw [segPs_cst rfl, segPs_cst e, range_drop_take _ _ _ _ (by omega)]
   refine List.map_congr_left fun k hk => ?_
   simp only []
   rw [tb_cut _ _ _ _ _ (by omega) (List.mem_range.1 hk)]
  ·rename_i e
   have hv : 0 ≤ s.v := by
    rcases h.2.2.2 with h9 | h9
    ·exact absurd h9.1 e
    ·exact h9.1
   rw [segPs_var (s := ⟨s.v, s.lo + p, m, 0, []⟩) hv, segPs_var hv]
   unfold runL
   rw [range_drop_take _ _ _ _ (by omega)]
   refine List.map_congr_left fun k hk => ?_
   simp only []
   congr 1
   push_cast
   omega
theorem betS_app (lo en : Nat) : ∀ (a b : List Sc) (f : Nat), betS lo en f (a ++ b) = betS lo en f a ++ betS lo en (f + (formP a).length) b
 | [], b, f => by simp [betS, formP_nil]
 | s :: t, b, f => by
  rw [List.cons_append, betS, betS, betS_app lo en t b, formP_cons, List.length_append, segPs_len, List.append_assoc, Nat.add_assoc]
theorem bet_in {f lo en wd : Nat} (h : max f lo < min (f + wd) en) : 1 ≤ min (f + wd) en - max f lo ∧ max f lo - f + (min (f + wd) en - max f lo) ≤ wd := by omega
theorem betS_mem (lo en : Nat) : ∀ (l : List Sc) (f : Nat) (x : Sc), x ∈ betS lo en f l → ∃ s ∈ l, ∃ p m, 1 ≤ m ∧ p + m ≤ s.wd.toNat ∧ x = cutS s p m
 | [], f, x, h => by simp [betS] at h
 | s :: t, f, x, h => by
  rw [betS] at h
  rcases List.mem_append.1 h with h | h
  ·split at h
   ·rename_i hc
    have := bet_in hc
    exact ⟨s, by simp, _, _, this.1, this.2, List.mem_singleton.1 h⟩
   ·cases h
  ·obtain ⟨s', hs', r⟩ := betS_mem lo en t _ x h
   exact ⟨s', List.mem_cons_of_mem _ hs', r⟩
theorem betS_P (lo en : Nat) : ∀ (l : List Sc) (f : Nat), (∀ s ∈ l, okS s) → formP (betS lo en f l) = ((formP l).take (en - f)).drop (lo - f)
 | [], f, _ => by simp [betS, formP_nil]
 | s :: t, f, h => by
  have hs := h s (by simp)
  have h1 := hs.1
  rw [betS, formP_app, betS_P lo en t _ (fun x hx => h x (by simp [hx])), formP_cons, List.take_append, segPs_len, List.drop_append]
  have e2 : ((formP t).take (en - f - s.wd.toNat)).drop (lo - f - ((segPs s s.wd.toNat).take (en - f)).length) = ((formP t).take (en - (f + s.wd.toNat))).drop (lo - (f + s.wd.toNat)) := by
   rw [List.length_take, segPs_len]
   by_cases e : s.wd.toNat ≤ en - f
   ·rw [Nat.min_eq_right e, Nat.sub_sub, Nat.sub_sub]
   ·rw [show en - f - s.wd.toNat = 0 by omega, show en - (f + s.wd.toNat) = 0 by omega]
    simp
  rw [e2]
  congr 1
  split
  ·rename_i hc
   have hb := bet_in hc
   have h9 := cutS_P (p := max f lo - f) (m := min (f + s.wd.toNat) en - max f lo) hs hb.1 (by omega)
   have h8 : formP [cutS s (max f lo - f) (min (f + s.wd.toNat) en - max f lo)] = segPs (cutS s (max f lo - f) (min (f + s.wd.toNat) en - max f lo)) (min (f + s.wd.toNat) en - max f lo) := by
    simp only [formP, List.flatMap_cons, List.flatMap_nil, List.append_nil, cutS_wd, Int.toNat_natCast]
   rw [h8, h9, List.drop_take, show max f lo - f = lo - f by omega]
   by_cases e : f + s.wd.toNat ≤ en
   ·rw [List.take_of_length_le (i := en - f - (lo - f)) (by rw [List.length_drop, segPs_len]; omega), List.take_of_length_le (i := min (f + s.wd.toNat) en - max f lo) (by rw [List.length_drop, segPs_len]; omega)]
   ·congr 1
    omega
  ·rename_i hc
   rw [formP_nil, List.drop_eq_nil_of_le]
   rw [List.length_take, segPs_len]
   omega
theorem betS_ok {lo en f : Nat} {l : List Sc} (h : ∀ s ∈ l, okS s ∧ 0 ≤ s.lo ∧ s.lo + s.wd ≤ 4096) : ∀ s ∈ betS lo en f l, okS s ∧ 0 ≤ s.lo ∧ s.lo ≤ 4096 := fun x hx => by
 obtain ⟨s, hs, p, m, h1, h2, rfl⟩ := betS_mem lo en l f x hx
 obtain ⟨h3, h4⟩ := h s hs
 have := h3.1
 exact ⟨cutS_ok h3 h1 (by omega), cutS_lo h4 h1 (by omega)⟩
theorem betS_snoc (lo en : Nat) (l : List Sc) {k : Nat} {s : Sc} (h : l[k]? = some s) : betS lo en 0 (l.take (k + 1)) = betS lo en 0 (l.take k) ++ (if max (formP (l.take k)).length lo < min ((formP (l.take k)).length + s.wd.toNat) en then [cutS s (max (formP (l.take k)).length lo - (formP (l.take k)).length) (min ((formP (l.take k)).length + s.wd.toNat) en - max (formP (l.take k)).length lo)] else []) := by
 rw [List.take_add_one, h, Option.toList_some, betS_app, Nat.zero_add, betS, betS, List.append_nil]
theorem betS_pre (lo en : Nat) (l : List Sc) (k : Nat) : betS lo en 0 (l.take k) <+: betS lo en 0 l := by
 have h9 := betS_app lo en (l.take k) (l.drop k) 0
 rw [List.take_append_drop] at h9
 exact ⟨_, h9.symm⟩
def RetCu (x : Sg) (p m : Nat) (w : World) (e : Ending) (w' : World) : Prop := ∃ a c, e = .returned (sgV ⟨cutS x.ct p m, a, c⟩) ∧ Rd w' a (cutS x.ct p m).ws ∧ (a = none → c = 0) ∧ (∀ q, a = some q → (x.a = some q ∨ w.heap.size ≤ q.block) ∧ q.block < w'.heap.size) ∧ Below w.heap.size w w'
theorem Fresh.rdq {w : World} {lo : Nat} {a : Option Addr} {ys : List Nat} (h : Fresh w lo a ys) (h1 : 1 ≤ ys.length) (hl : ys.length ≤ 1048576) (hx : ∀ x ∈ ys, x < 18446744073709551616) : Rd w a ys ∧ ∃ g, a = some ⟨g, 0, none⟩ ∧ lo ≤ g ∧ g < w.heap.size := by
 rcases h with ⟨h2, h3⟩ | ⟨g, h3, h4, h5⟩
 ·rw [h2] at h1; simp at h1
 ·exact ⟨by rw [h3]; exact h5.rd hl hx, g, h3, h4, h5.lt⟩
set_option maxHeartbeats 400000 in
theorem constSeg_any (W : Int) (a : Option Addr) (n c : Nat) (w : World) :
  Calls Tryz.prog 90 #[.agg #[.int .i64 W, .slice a n c]] w fun e w' => e = .returned (.agg #[.int .i64 (-1), .int .i64 0, .int .i64 W, .int .i64 W, .slice a n c]) ∧ Below w.heap.size w w' := by
 have BB : Hid (Below w.heap.size w ((w.alloc (Obj.cells #[.int .i64 W, .slice a n c] 65)).alloc (Obj.cells #[.int .i64 (-1), .int .i64 0, .int .i64 W, .int .i64 W, .slice a n c] 73))) := (blA _ _).alloc (by simp) _
 go_enter Tryz.func90, Tryz.ntmps90
 go_wp2_with fail
 exact bodyPost_ret (v := .agg #[.int .i64 (-1), .int .i64 0, .int .i64 W, .int .i64 W, .slice a n c]) (by simp [results, Tryz.results90, go_sem]) rfl ⟨rfl, BB.out⟩
set_option maxHeartbeats 1000000 in
theorem segPart_any (x : Sg) (p m : Nat) (w : World) (hok : okS x.ct) (hlo : 0 ≤ x.ct.lo ∧ x.ct.lo + x.ct.wd ≤ 4096) (hm : 1 ≤ m) (hp : (p : Int) + m ≤ x.ct.wd) (hr : Rd w x.a x.ct.ws) (hn : x.a = none → x.c = 0) (hl : ∀ q, x.a = some q → q.block < w.heap.size) :
  Calls Tryz.prog 117 #[.agg #[.int .i64 x.ct.v, .int .i64 x.ct.lo, .int .i64 x.ct.wd, .int .i64 x.ct.bw, .slice x.a x.ct.ws.length x.c], .int .i64 (p : Int), .int .i64 (m : Int)] w (RetCu x p m w) := by
 obtain ⟨⟨v, lo, wd, bw, ws⟩, sa, sc⟩ := x
 simp only [] at hok hlo hp hr hn hl ⊢
 have hwd := hok.2.1
 simp only [] at hwd
 obtain ⟨wl, hwl⟩ : ∃ n, ws.length = n := ⟨_, rfl⟩
 have HWL := kide hwl
 by_cases e1 : (m : Int) = wd
 ·have hc : cutS ⟨v, lo, wd, bw, ws⟩ p m = ⟨v, lo, wd, bw, ws⟩ := by unfold cutS; rw [if_pos e1]
  unfold RetCu
  simp only []
  rw [hc]
  unfold sgV
  simp only []
  subst e1
  have hb : Below w.heap.size w ((w.alloc (Obj.cells #[.int .i64 v, .int .i64 lo, .int .i64 (m : Int), .int .i64 bw, .slice sa wl sc] 73)).alloc (Obj.cells #[.int .i64 v, .int .i64 lo, .int .i64 (m : Int), .int .i64 bw, .slice sa wl sc] 73)) := (blA _ _).alloc (by simp) _
  have BB := kide hb
  have HR := kide hr
  have HN := kide hn
  have HL := kide hl
  clear hc hr hn hl hok hb
  rw [hwl]
  clear hwl
  go_enter Tryz.func117, Tryz.ntmps117
  go_wp2_with fail
  exact bodyPost_ret (v := .agg #[.int .i64 v, .int .i64 lo, .int .i64 (m : Int), .int .i64 bw, .slice sa wl sc]) (by simp [results, Tryz.results117, go_sem]) rfl ⟨sa, sc, rfl, HR.out.later BB.out, HN.out, fun q hq => ⟨.inl hq, Nat.lt_of_lt_of_le (HL.out q hq) BB.out.size⟩, BB.out⟩
 ·have e1b : ((m : Int) == wd) = false := beq_eq_false_iff_ne.2 e1
  by_cases e2 : v = -1
  ·have hbw : bw = wd := by
    rcases hok.2.2.2 with h9 | h9
    ·exact h9.2.2.1
    ·simp only [] at h9; omega
   have hrt : rightB bw ws = true := by
    rcases hok.2.2.2 with h9 | h9
    ·exact h9.2.2.2
    ·simp only [] at h9; omega
   subst e2 hbw
   obtain ⟨W, rfl⟩ := Int.eq_ofNat_of_zero_le (show 0 ≤ bw by omega)
   obtain ⟨P9, hP9⟩ : ∃ P, pack (((bitsTo ws W).drop p).take m) = P := ⟨_, rfl⟩
   have hc : cutS ⟨-1, lo, (W : Int), (W : Int), ws⟩ p m = ⟨-1, 0, (m : Int), (m : Int), P9⟩ := by
    unfold cutS
    rw [if_neg e1, if_pos rfl]
    simp only [Int.toNat_natCast, hP9]
   have hPL : P9.length = (m + 63) / 64 := by rw [← hP9, pack_len, cut_len _ _ _ _ (by omega)]
   have hpart : partR (W : Int) ws ((p : Int) + (m : Int) - 1) (p : Int) = ((m : Int), P9, true) := by
    unfold partR
    rw [if_pos ⟨hrt, by omega, by omega, by omega⟩]
    rw [Int.toNat_natCast, Int.toNat_natCast, show (p : Int) + (m : Int) - 1 - (p : Int) + 1 = (m : Int) by omega, Int.toNat_natCast, hP9]
   have HPL : Hid (1 ≤ P9.length ∧ P9.length ≤ 1048576 ∧ ∀ x ∈ P9, x < 18446744073709551616) := ⟨by omega, by omega, by rw [← hP9]; exact pack_lt _⟩
   unfold RetCu
   simp only []
   rw [hc]
   unfold sgV
   simp only []
   have HPT := kide (fun u (hu : Below w.heap.size w u) => implPart_any (W : Int) sa sc ws ((p : Int) + (m : Int) - 1) (p : Int) u (hr.later hu) (WalkArith.wf_i64 ⟨by omega, by omega⟩))
   rw [hpart, hwl] at HPT
   rw [hwl]
   have hw1 : IntKind.i64.wrap ((p : Int) + (m : Int)) = (p : Int) + (m : Int) := by rw [IntKind.wrap_i64]; omega
   have hw2 : IntKind.i64.wrap ((p : Int) + (m : Int) - 1) = (p : Int) + (m : Int) - 1 := by rw [IntKind.wrap_i64]; omega
   have hb1 : Below w.heap.size w ((w.alloc (Obj.cells #[.int .i64 (-1), .int .i64 lo, .int .i64 (W : Int), .int .i64 (W : Int), .slice sa wl sc] 73)).alloc (Obj.cells #[.int .i64 0, .int .i64 0, .int .i64 0, .int .i64 0, .slice none 0 0] 73)) := (blA _ _).alloc (by simp) _
   have XB := kide ((Bz.new w #[.int .i64 (-1), .int .i64 lo, .int .i64 (W : Int), .int .i64 (W : Int), .slice sa wl sc] 73).later ((Below.refl _ _).alloc (Nat.le_refl _) (Obj.cells #[.int .i64 0, .int .i64 0, .int .i64 0, .int .i64 0, .slice none 0 0] 73)))
   have XR : Hid (Bz ((w.alloc (Obj.cells #[.int .i64 (-1), .int .i64 lo, .int .i64 (W : Int), .int .i64 (W : Int), .slice sa wl sc] 73)).alloc (Obj.cells #[.int .i64 0, .int .i64 0, .int .i64 0, .int .i64 0, .slice none 0 0] 73)) (w.heap.size + 1) #[.int .i64 0, .int .i64 0, .int .i64 0, .int .i64 0, .slice none 0 0] 73) := by
    have h9 := Bz.new (w.alloc (Obj.cells #[.int .i64 (-1), .int .i64 lo, .int .i64 (W : Int), .int .i64 (W : Int), .slice sa wl sc] 73)) #[.int .i64 0, .int .i64 0, .int .i64 0, .int .i64 0, .slice none 0 0] 73
    rwa [show (w.alloc (Obj.cells #[.int .i64 (-1), .int .i64 lo, .int .i64 (W : Int), .int .i64 (W : Int), .slice sa wl sc] 73)).heap.size = w.heap.size + 1 by simp] at h9
   have BV := kide hb1
   clear hok hr hn hl hc hpart hP9 hPL hrt hb1
   go_enter Tryz.func117, Tryz.ntmps117
   go_wp2_with fail
   generalize (w.alloc (Obj.cells #[.int .i64 (-1), .int .i64 lo, .int .i64 (W : Int), .int .i64 (W : Int), .slice sa wl sc] 73)).alloc (Obj.cells #[.int .i64 0, .int .i64 0, .int .i64 0, .int .i64 0, .slice none 0 0] 73) = V at *
   refine Calls.mono (HPT.out V BV.out) ?_
   rintro e V2 ⟨a9, c9, rfl, hf9, hb9⟩
   obtain ⟨r9, g9, rfl, l9, m9⟩ := hf9.rdq HPL.out.1 HPL.out.2.1 HPL.out.2.2
   have XR2 := kide (XR.out.later hb9)
   have R9 := kide r9
   have B2 := kide (BV.out.trans (hb9.mono BV.out.size))
   have LG : Hid (w.heap.size ≤ g9) := Nat.le_trans BV.out.size l9
   have LV := kide l9
   clear hf9 r9 hb9 l9
   have BA : Hid (Below V2.heap.size V2 (V2.alloc (Obj.cells #[.int .i64 (m : Int), .slice (some ⟨g9, 0, none⟩) P9.length c9] 65))) := blA _ _
   go_wp2_with fail
   refine Calls.mono (constSeg_any _ _ _ _ _) ?_
   rintro e V3 ⟨rfl, hb3⟩
   have b3 := BA.out.trans (hb3.mono BA.out.size)
   have XR3 := XR2.out.later b3
   have B3 := kide (B2.out.trans (b3.mono B2.out.size))
   have R3 := kide (R9.out.later b3)
   have m3 : g9 < V3.heap.size := Nat.lt_of_lt_of_le m9 b3.size
   have y0 := XR3.cell 0
   have y1 := XR3.cell 1
   have y2 := XR3.cell 2
   have y3 := XR3.cell 3
   have y4 := XR3.cell 4
   have z0 := XR3.froz 0
   have z1 := XR3.froz 1
   have z2 := XR3.froz 2
   have z3 := XR3.froz 3
   have z4 := XR3.froz 4
   simp at y0 y1 y2 y3 y4
   have XR9 := kide XR3
   clear hb3 b3 XR3
   have Y9 : Hid (Bz (((((V3.setCell ⟨w.heap.size + 1, 0, none⟩ (Value.int .i64 (-1))).setCell ⟨w.heap.size + 1, 1, none⟩ (Value.int .i64 0)).setCell ⟨w.heap.size + 1, 2, none⟩ (Value.int .i64 (m : Int))).setCell ⟨w.heap.size + 1, 3, none⟩ (Value.int .i64 (m : Int))).setCell ⟨w.heap.size + 1, 4, none⟩ (Value.slice (some ⟨g9, 0, none⟩) P9.length c9)) (w.heap.size + 1) #[.int .i64 (-1), .int .i64 0, .int .i64 (m : Int), .int .i64 (m : Int), .slice (some ⟨g9, 0, none⟩) P9.length c9] 73) := (((((XR9.out.set 0 _).set 1 _).set 2 _).set 3 _).set 4 _)
   have BZ : Hid (Below w.heap.size w (((((V3.setCell ⟨w.heap.size + 1, 0, none⟩ (Value.int .i64 (-1))).setCell ⟨w.heap.size + 1, 1, none⟩ (Value.int .i64 0)).setCell ⟨w.heap.size + 1, 2, none⟩ (Value.int .i64 (m : Int))).setCell ⟨w.heap.size + 1, 3, none⟩ (Value.int .i64 (m : Int))).setCell ⟨w.heap.size + 1, 4, none⟩ (Value.slice (some ⟨g9, 0, none⟩) P9.length c9))) := (((((B3.out.setCell (p := ⟨w.heap.size + 1, 0, none⟩) (Nat.le_succ _) _).setCell (p := ⟨w.heap.size + 1, 1, none⟩) (Nat.le_succ _) _).setCell (p := ⟨w.heap.size + 1, 2, none⟩) (Nat.le_succ _) _).setCell (p := ⟨w.heap.size + 1, 3, none⟩) (Nat.le_succ _) _).setCell (p := ⟨w.heap.size + 1, 4, none⟩) (Nat.le_succ _) _)
   have GZ : Hid (V3.grownBy (((((V3.setCell ⟨w.heap.size + 1, 0, none⟩ (Value.int .i64 (-1))).setCell ⟨w.heap.size + 1, 1, none⟩ (Value.int .i64 0)).setCell ⟨w.heap.size + 1, 2, none⟩ (Value.int .i64 (m : Int))).setCell ⟨w.heap.size + 1, 3, none⟩ (Value.int .i64 (m : Int))).setCell ⟨w.heap.size + 1, 4, none⟩ (Value.slice (some ⟨g9, 0, none⟩) P9.length c9)) (some (w.heap.size + 1))) := ⟨rfl, rfl, rfl, by simp, fun k hk hne => by
    have h9 : k ≠ w.heap.size + 1 := fun e => hne (by rw [e])
    rw [heap_setCell_other _ _ _ _ (by simpa using h9), heap_setCell_other _ _ _ _ (by simpa using h9), heap_setCell_other _ _ _ _ (by simpa using h9), heap_setCell_other _ _ _ _ (by simpa using h9), heap_setCell_other _ _ _ _ (by simpa using h9)]⟩
   have RZ := kide (rd_gr R3.out GZ.out (fun q hq e => by cases hq; have h9 := Option.some.inj e; simp only [] at h9; have := XR.out.lt; have := LV.out; omega))
   go_wp2_with fail
   generalize (((((V3.setCell ⟨w.heap.size + 1, 0, none⟩ (Value.int .i64 (-1))).setCell ⟨w.heap.size + 1, 1, none⟩ (Value.int .i64 0)).setCell ⟨w.heap.size + 1, 2, none⟩ (Value.int .i64 (m : Int))).setCell ⟨w.heap.size + 1, 3, none⟩ (Value.int .i64 (m : Int))).setCell ⟨w.heap.size + 1, 4, none⟩ (Value.slice (some ⟨g9, 0, none⟩) P9.length c9)) = Z at *
   have x0 := Y9.out.cell 0
   have x1 := Y9.out.cell 1
   have x2 := Y9.out.cell 2
   have x3 := Y9.out.cell 3
   have x4 := Y9.out.cell 4
   simp at x0 x1 x2 x3 x4
   exact bodyPost_ret (v := .agg #[.int .i64 (-1), .int .i64 0, .int .i64 (m : Int), .int .i64 (m : Int), .slice (some ⟨g9, 0, none⟩) P9.length c9]) (by simp [results, Tryz.results117, go_sem, x0, x1, x2, x3, x4]) rfl ⟨_, _, rfl, RZ.out, fun e => (by cases e), fun q hq => ⟨.inr (by cases hq; exact LG.out), by cases hq; exact Nat.lt_of_lt_of_le m3 GZ.out.size⟩, BZ.out⟩
  ·have hv0 : 0 ≤ v := by
    rcases hok.2.2.2 with h9 | h9
    ·exact absurd h9.1 e2
    ·exact h9.1
   have e2b : (v == -1) = false := beq_eq_false_iff_ne.2 e2
   have hc : cutS ⟨v, lo, wd, bw, ws⟩ p m = ⟨v, lo + p, (m : Int), 0, []⟩ := by unfold cutS; rw [if_neg e1, if_neg e2]
   unfold RetCu
   simp only []
   rw [hc]
   unfold sgV
   simp only [List.length_nil]
   rw [hwl]
   have hw1 : IntKind.i64.wrap (lo + (p : Int)) = lo + (p : Int) := by rw [IntKind.wrap_i64]; omega
   have hb : Below w.heap.size w ((w.alloc (Obj.cells #[.int .i64 v, .int .i64 lo, .int .i64 wd, .int .i64 bw, .slice sa wl sc] 73)).alloc (Obj.cells #[.int .i64 v, .int .i64 (lo + p), .int .i64 (m : Int), .int .i64 0, .slice none 0 0] 73)) := (blA _ _).alloc (by simp) _
   have BB := kide hb
   clear hok hr hn hl hc hb
   go_enter Tryz.func117, Tryz.ntmps117
   go_wp2_with fail
   exact bodyPost_ret (v := .agg #[.int .i64 v, .int .i64 (lo + p), .int .i64 (m : Int), .int .i64 0, .slice none 0 0]) (by simp [results, Tryz.results117, go_sem]) rfl ⟨none, 0, rfl, ⟨by simp, by simp, .inl rfl⟩, fun _ => rfl, fun q hq => (by cases hq), BB.out⟩
open Go.RowKit Go.Shelf
attribute [local go_sem] Oper.semAt_some
theorem rd_set {w : World} {a : Option Addr} {xs : List Nat} {β : Nat} {cs : Array Value} {t : TypeId} (h : Rd w a xs) (hb : Bz w β cs t) (hno : ∀ (j : Nat) (n : Int), cs[j]? ≠ some (.int .u64 n)) (i : Nat) (u : Value) : Rd (w.setCell ⟨β, i, none⟩ u) a xs := by
 obtain ⟨h1, h2, h3⟩ := h
 refine ⟨h1, h2, ?_⟩
 rcases h3 with h3 | ⟨b, o, rfl, hc⟩
 ·exact .inl h3
 ·refine .inr ⟨b, o, rfl, fun j hj => ?_⟩
  have h9 := hc j hj
  have hne : b ≠ β := fun e => by
   subst e
   rw [hb.cell (o + j)] at h9
   exact hno _ _ h9
  rw [World.cell?_of_block (a := ⟨b, o + j, none⟩) (heap_setCell_other _ _ _ _ (by simpa using hne))]
  exact h9
theorem no_u64 {v : Value} (h : ∀ n, v ≠ .int .u64 n) : ∀ (j : Nat) (n : Int), (#[v] : Array Value)[j]? ≠ some (.int .u64 n) := fun j n e => by
 match j, e with
 | 0, e => simp at e; exact h n e
 | j + 1, e => simp at e
theorem wpListIn_appS5 {l n : Nat} {w : World} {ops : Array Oper} {rest : List Oper} {o : Oper} {a : Act} {Q : Exit → Act → World → Prop} (hgd : o.guard = none) (s x : Operand)
  (ho : o.op = .call { callee := .builtin .append, args := #[s, x], argTypes := #[45, 45] })
  (B : Nat) (v : Value) (k : List Sg) (y : Sg) (hs : a.eval s = v) (hown : OS5 w B v k) (gx c : Nat) (hx : a.eval x = .slice (some ⟨gx, 0, none⟩) 1 c)
  (hb : Bz w gx #[.int .i64 y.ct.v, .int .i64 y.ct.lo, .int .i64 y.ct.wd, .int .i64 y.ct.bw, .slice y.a y.ct.ws.length y.c] 73) (hl : k.length ≤ 1048576) (hB : B ≤ w.heap.size)
  (h : ∀ g cap w', OS5 w' B (.slice (some ⟨g, 0, none⟩) (k.length + 1) cap) (k ++ [y]) → w.grownBy w' v.ownBlock → (v.ownBlock = some g ∨ g = w.heap.size) → wpListIn (Fence.wide.inRound l) n Tryz.prog ops Q rest (a.put o.dst (.slice (some ⟨g, 0, none⟩) (k.length + 1) cap)) w') : wpListIn (Fence.wide.inRound l) n Tryz.prog ops Q (o :: rest) a w := by
 obtain ⟨i0, hi, hz0, hz1, hz2⟩ := info_parts Tryz.infoSeg9
 obtain ⟨g, cap, w', hrun, h1, h2, h3, _⟩ := run_append_lies (P := Tryz.prog) w 45 o.type B 73 i0 _ 5 56 Tryz.underlying45 hi hz0 hz1 hz2 rfl (by decide) v k.length (sgc k) hown ⟨gx, 0, none⟩ 1 c (sgc [y]) rfl (by
  intro j u hj
  rw [Addr.add_lit]
  match j, hj with
  | 0, hj => simp [sgc] at hj; subst hj; exact hb.cell 0
  | 1, hj => simp [sgc] at hj; subst hj; exact hb.cell 1
  | 2, hj => simp [sgc] at hj; subst hj; exact hb.cell 2
  | 3, hj => simp [sgc] at hj; subst hj; exact hb.cell 3
  | 4, hj => simp [sgc] at hj; subst hj; exact hb.cell 4
  | j + 5, hj => simp [sgc] at hj) (by
  intro u hu
  simp [sgc] at hu
  rcases hu with rfl | rfl | rfl | rfl | rfl <;> rfl) (by decide) (by unfold maxLen; omega) (by omega) hB _ rfl
 have h1' : OS5 w' B (.slice (some ⟨g, 0, none⟩) (k.length + 1) cap) (k ++ [y]) := by
  unfold OS5
  rw [sgc_append, List.length_append]
  exact h1
 refine wpListIn_plain hgd fun K hK' => ?_
 unfold Oper.wpIn
 refine ⟨?_, ?_⟩
 ·simp [Oper.about, ho, resolve, Target.leads, Sem.run_pure]
 ·rw [Oper.semAt_plain (Fence.wide.inRound l) _ _ (by rw [ho]; intro c hc'; cases hc')]
  simp [execOp, ho, resolve, invoke, builtin, hs, hx, hrun, Result.andThen]
  exact hK' _ _ (h g cap w' h1' h2 h3)
def Nz (W W' : World) : Prop := W.heap.size ≤ W'.heap.size ∧ ∀ (k : Nat) (o : Obj), W.heap[k]? = some o → o.isCells = false → W'.heap[k]? = some o
theorem Nz.trans {A B C : World} (h : Nz A B) (k : Nz B C) : Nz A C := ⟨Nat.le_trans h.1 k.1, fun j o hj hc => k.2 j o (h.2 j o hj hc) hc⟩
theorem Nz.below {A B : World} (h : Below A.heap.size A B) : Nz A B := ⟨h.size, fun j o hj _ => (h.block j (Array.getElem?_eq_some_iff.1 hj).1).trans hj⟩
theorem Nz.set {W : World} {β i : Nat} {cs : Array Value} {t : TypeId} (hb : Bz W β cs t) (u : Value) : Nz W (W.setCell ⟨β, i, none⟩ u) := ⟨by simp, fun k o hk hc => by
 rw [heap_setCell_other _ _ _ _ (fun e => by
  simp only [] at e
  unfold Bz at hb
  rw [e, hb] at hk
  cases hk
  cases hc)]
 exact hk⟩
theorem Nz.grown {W W' : World} {row : Option Nat} (hg : W.grownBy W' row) (hr : ∀ r, row = some r → ∃ cur t, W.heap[r]? = some (.cells cur t (0, 0))) : Nz W W' := ⟨hg.size, fun k o hk hc => (hg.block k (Array.getElem?_eq_some_iff.1 hk).1 (fun e => by
 obtain ⟨cur, t, h9⟩ := hr k e.symm
 rw [hk] at h9
 cases h9
 cases hc)).trans hk⟩
theorem Nz.keeps {W W' : World} (h : Nz W W') (B : Nat) : KeepsFrom B W W' := ⟨h.1, fun k o _ hk hc => h.2 k o hk hc⟩
theorem bz_os5 {w w' : World} {b B : Nat} {v : Value} {l : List Sg} {cs : Array Value} {t : TypeId} (hb : Bz w b cs t) (h : OS5 w B v l) (ht : t ≠ 73) (hg : w.grownBy w' v.ownBlock) : Bz w' b cs t := by
 unfold Bz at hb ⊢
 rw [hg.block b (lt_of_block hb) (fun e => by
  obtain ⟨cur, hc⟩ := h.typed e.symm
  rw [hb] at hc
  cases hc
  exact ht rfl)]
 exact hb
theorem os5_set {w : World} {B b i : Nat} {v : Value} {l : List Sg} {cs : Array Value} {t : TypeId} (h : OS5 w B v l) (hb : Bz w b cs t) (ht : t ≠ 73) (u : Value) : OS5 (w.setCell ⟨b, i, none⟩ u) B v l := h.move fun k hk => by
 obtain ⟨cur, hc⟩ := h.typed hk
 exact heap_setCell_other _ _ _ _ (fun e => by
  simp only [] at e
  unfold Bz at hb
  rw [e, hb] at hc
  cases hc
  exact ht rfl)
theorem Gi.app {w m w6 : World} {b N g6 c6 vc : Nat} {va : Option Addr} {L : List Sc} {pre : List Sg} {ow : Bool} {k : List Sg} {x : Sg} (h : Gi w b L pre ow (.slice va N vc) k m)
  (ho : OS5 w6 b (.slice (some ⟨g6, 0, none⟩) (N + 1) c6) (k ++ [x])) (hg : m.grownBy w6 (Value.slice va N vc).ownBlock) (hl : (Value.slice va N vc).ownBlock = some g6 ∨ g6 = m.heap.size)
  (hp : (pre ++ [x]).map Sg.ct <+: L) (hr : Rd m x.a x.ct.ws) (hn : x.a = none → x.c = 0) (hq : ∀ p, x.a = some p → (Value.slice va N vc).ownBlock ≠ some p.block ∧ p.block < m.heap.size) (hlo : 0 ≤ x.ct.lo ∧ x.ct.lo ≤ 4096) (hnf : Nf (k.map Sg.ct ++ [x.ct])) (hlen : k.length + 1 ≤ 2000) :
  Gi w b L (pre ++ [x]) false (.slice (some ⟨g6, 0, none⟩) (N + 1) c6) (k ++ [x]) ((w6.setCell ⟨b + 1 + 1, 0, none⟩ (.slice (some ⟨g6, 0, none⟩) (N + 1) c6)).setCell ⟨b + 1 + 1 + 1, 0, none⟩ (.bool false)) ∧ Nz m ((w6.setCell ⟨b + 1 + 1, 0, none⟩ (.slice (some ⟨g6, 0, none⟩) (N + 1) c6)).setCell ⟨b + 1 + 1 + 1, 0, none⟩ (.bool false)) ∧ Below b m ((w6.setCell ⟨b + 1 + 1, 0, none⟩ (.slice (some ⟨g6, 0, none⟩) (N + 1) c6)).setCell ⟨b + 1 + 1 + 1, 0, none⟩ (.bool false)) := by
 have q0 := bz_os5 h.r0 h.row (by decide) hg
 have q1 := bz_os5 h.r1 h.row (by decide) hg
 have q2 := bz_os5 h.fx h.row (by decide) hg
 have q3 := bz_os5 h.ox h.row (by decide) hg
 have q4 := q3.other (show b + 1 + 1 + 1 ≠ b + 1 + 1 by omega) 0 (.slice (some ⟨g6, 0, none⟩) (N + 1) c6)
 have hge : ∀ j, (Value.slice va N vc).ownBlock = some j → b ≤ j := fun j hj => (h.row.lt hj).1
 have hbm : b ≤ m.heap.size := by have := h.r0.lt; omega
 have hb6 : Below b m w6 := ⟨hg.os, hg.tape, hg.output, hg.size, fun j hj => hg.block j (by omega) (fun e => by have := hge j e.symm; omega)⟩
 have hb9 : Below b m ((w6.setCell ⟨b + 1 + 1, 0, none⟩ (.slice (some ⟨g6, 0, none⟩) (N + 1) c6)).setCell ⟨b + 1 + 1 + 1, 0, none⟩ (.bool false)) := (hb6.setCell (p := ⟨b + 1 + 1, 0, none⟩) (by simp only []; omega) _).setCell (p := ⟨b + 1 + 1 + 1, 0, none⟩) (by simp only []; omega) _
 have hrd : ∀ y : Sg, Rd m y.a y.ct.ws → (∀ p, y.a = some p → (Value.slice va N vc).ownBlock ≠ some p.block) → Rd ((w6.setCell ⟨b + 1 + 1, 0, none⟩ (.slice (some ⟨g6, 0, none⟩) (N + 1) c6)).setCell ⟨b + 1 + 1 + 1, 0, none⟩ (.bool false)) y.a y.ct.ws := fun y hy hne =>
  rd_set (rd_set (rd_gr hy hg hne) q2 (no_u64 (fun n e => by cases e)) 0 _) q4 (no_u64 (fun n e => by cases e)) 0 _
 refine ⟨⟨(q0.other (by omega) 0 _).other (by omega) 0 _, (q1.other (by omega) 0 _).other (by omega) 0 _, (q2.set 0 _).other (by omega) 0 _, q4.set 0 _, os5_set (os5_set ho q2 (by decide) _) q4 (by decide) _, by rw [List.map_append]; exact hnf, ?_, ?_, by simp; omega, ?_, ?_, ?_, fun e => by (cases e), ?_, hp, h.bel.trans hb9⟩, ?_, hb9⟩
 ·rw [List.map_append, List.map_append, formP_app, formP_app, h.bits]
 ·intro y hy
  rcases List.mem_append.1 hy with hy | hy
  ·exact h.lo y hy
  ·rw [List.mem_singleton.1 hy]; exact hlo
 ·intro y hy
  rcases List.mem_append.1 hy with hy | hy
  ·exact hrd y (h.rd y hy) (fun p hp => h.ra y hy p hp)
  ·rw [List.mem_singleton.1 hy]; exact hrd x hr (fun p hp => (hq p hp).1)
 ·intro y hy
  rcases List.mem_append.1 hy with hy | hy
  ·exact h.no y hy
  ·rw [List.mem_singleton.1 hy]; exact hn
 ·intro y hy p hp
  have hs : m.heap.size ≤ ((w6.setCell ⟨b + 1 + 1, 0, none⟩ (.slice (some ⟨g6, 0, none⟩) (N + 1) c6)).setCell ⟨b + 1 + 1 + 1, 0, none⟩ (.bool false)).heap.size := by have := hg.size; simpa using this
  rcases List.mem_append.1 hy with hy | hy
  ·exact Nat.lt_of_lt_of_le (h.pl y hy p hp) hs
  ·rw [List.mem_singleton.1 hy] at hp; exact Nat.lt_of_lt_of_le (hq p hp).2 hs
 ·intro y hy p hp e
  have hh : (Value.slice va N vc).ownBlock ≠ some p.block ∧ p.block < m.heap.size := by
   rcases List.mem_append.1 hy with hy | hy
   ·exact ⟨h.ra y hy p hp, h.pl y hy p hp⟩
   ·rw [List.mem_singleton.1 hy] at hp; exact hq p hp
  have e9 : g6 = p.block := Option.some.inj e
  rcases hl with h9 | h9
  ·exact hh.1 (by rw [h9, e9])
  ·omega
 ·refine ((Nz.grown hg (fun r e => ?_)).trans (Nz.set q2 _)).trans (Nz.set q4 _)
  obtain ⟨cur, hc⟩ := h.row.typed e
  exact ⟨cur, _, hc⟩
theorem os5_last {w : World} {B g n c M : Nat} {k : List Sg} {y : Sg} (h : OS5 w B (.slice (some ⟨g, 0, none⟩) n c) (k ++ [y])) (hM : k.length = M) :
  w.cell? ⟨g, M * 5, none⟩ = some (.int .i64 y.ct.v) ∧ w.cell? ⟨g, M * 5 + 1, none⟩ = some (.int .i64 y.ct.lo) ∧ w.cell? ⟨g, M * 5 + 2, none⟩ = some (.int .i64 y.ct.wd) ∧ w.cell? ⟨g, M * 5 + 3, none⟩ = some (.int .i64 y.ct.bw) ∧ w.cell? ⟨g, M * 5 + 4, none⟩ = some (.slice y.a y.ct.ws.length y.c) := by
 have key : ∀ (j : Nat) (u : Value), (sgc [y])[j]? = some u → w.cell? ⟨g, M * 5 + j, none⟩ = some u := fun j u hj => by
  have hl : (sgc k).length = M * 5 := by rw [sgc_len, hM]
  have hc := World.ownsRow.cells h (g := g) rfl (M * 5 + j) u (by rw [sgc_append, List.getElem?_append_right (by omega), hl, Nat.add_sub_cancel_left]; exact hj)
  rw [Addr.add_lit] at hc
  simpa using hc
 exact ⟨key 0 _ rfl, key 1 _ rfl, key 2 _ rfl, key 3 _ rfl, key 4 _ rfl⟩
def put2 (w : World) (g o : Nat) (y : Sg) : World := (w.setCell ⟨g, o + 3, none⟩ (.int .i64 y.ct.bw)).setCell ⟨g, o + 4, none⟩ (.slice y.a y.ct.ws.length y.c)
def put5 (w : World) (g o : Nat) (y : Sg) : World := ((((w.setCell ⟨g, o, none⟩ (.int .i64 y.ct.v)).setCell ⟨g, o + 1, none⟩ (.int .i64 y.ct.lo)).setCell ⟨g, o + 2, none⟩ (.int .i64 y.ct.wd)).setCell ⟨g, o + 3, none⟩ (.int .i64 y.ct.bw)).setCell ⟨g, o + 4, none⟩ (.slice y.a y.ct.ws.length y.c)
theorem grown_same {a b c : World} {r : Option Nat} (h : a.grownBy b r) (k : b.grownBy c r) : a.grownBy c r := ⟨k.os.trans h.os, k.tape.trans h.tape, k.output.trans h.output, Nat.le_trans h.size k.size, fun j hj hn => (k.block j (Nat.lt_of_lt_of_le hj h.size) hn).trans (h.block j hj hn)⟩
theorem os5_put2 {w : World} {B g n c M : Nat} {k : List Sg} {y z : Sg} (h : OS5 w B (.slice (some ⟨g, 0, none⟩) n c) (k ++ [y])) (hM : k.length = M) (hz : z.ct = y.ct) : OS5 (put2 w g (M * 5) z) B (.slice (some ⟨g, 0, none⟩) n c) (k ++ [z]) ∧ w.grownBy (put2 w g (M * 5) z) (some g) := by
 obtain ⟨a, c', e⟩ := h.form
 cases e
 have s1 := World.ownsRow.stored h (M * 5 + 3) (.int .i64 z.ct.bw)
 have s2 := World.ownsRow.stored s1.1 (M * 5 + 4) (.slice z.a z.ct.ws.length z.c)
 refine ⟨?_, grown_same s1.2 s2.2⟩
 have hl : (sgc k).length = M * 5 := by rw [sgc_len, hM]
 have e : sgc (k ++ [z]) = ((sgc (k ++ [y])).set (M * 5 + 3) (.int .i64 z.ct.bw)).set (M * 5 + 4) (.slice z.a z.ct.ws.length z.c) := by
  rw [sgc_append, sgc_append]
  simp [sgc, List.set_append, hl, hz]
 have h9 := s2.1
 unfold OS5
 rw [e, show (k ++ [z]).length = (k ++ [y]).length by simp]
 exact h9
theorem os5_put5 {w : World} {B g n c M : Nat} {k : List Sg} {y : Sg} (z : Sg) (h : OS5 w B (.slice (some ⟨g, 0, none⟩) n c) (k ++ [y])) (hM : k.length = M) : OS5 (put5 w g (M * 5) z) B (.slice (some ⟨g, 0, none⟩) n c) (k ++ [z]) ∧ w.grownBy (put5 w g (M * 5) z) (some g) := by
 obtain ⟨a, c', e⟩ := h.form
 cases e
 have s1 := World.ownsRow.stored h (M * 5) (.int .i64 z.ct.v)
 have s2 := World.ownsRow.stored s1.1 (M * 5 + 1) (.int .i64 z.ct.lo)
 have s3 := World.ownsRow.stored s2.1 (M * 5 + 2) (.int .i64 z.ct.wd)
 have s4 := World.ownsRow.stored s3.1 (M * 5 + 3) (.int .i64 z.ct.bw)
 have s5 := World.ownsRow.stored s4.1 (M * 5 + 4) (.slice z.a z.ct.ws.length z.c)
 refine ⟨?_, grown_same s1.2 (grown_same s2.2 (grown_same s3.2 (grown_same s4.2 s5.2)))⟩
 have hl : (sgc k).length = M * 5 := by rw [sgc_len, hM]
 have e : sgc (k ++ [z]) = (((((sgc (k ++ [y])).set (M * 5) (.int .i64 z.ct.v)).set (M * 5 + 1) (.int .i64 z.ct.lo)).set (M * 5 + 2) (.int .i64 z.ct.wd)).set (M * 5 + 3) (.int .i64 z.ct.bw)).set (M * 5 + 4) (.slice z.a z.ct.ws.length z.c) := by
  rw [sgc_append, sgc_append]
  simp [sgc, List.set_append, hl]
 have h9 := s5.1
 unfold OS5
 rw [e, show (k ++ [z]).length = (k ++ [y]).length by simp]
 exact h9
theorem Gi.swap {w u u' : World} {b g n c : Nat} {L : List Sc} {pre : List Sg} {k : List Sg} {y z : Sg} (h : Gi w b L pre false (.slice (some ⟨g, 0, none⟩) n c) (k ++ [y]) u) (hg : u.grownBy u' (some g)) (ho : OS5 u' b (.slice (some ⟨g, 0, none⟩) n c) (k ++ [z])) (hz : z.ct = y.ct)
  (hr : Rd u z.a z.ct.ws) (hn : z.a = none → z.c = 0) (hq : ∀ p, z.a = some p → p.block < u.heap.size ∧ p.block ≠ g) : Gi w b L pre false (.slice (some ⟨g, 0, none⟩) n c) (k ++ [z]) u' ∧ Nz u u' ∧ Below b u u' := by
 have hgo : u.grownBy u' (Value.slice (some ⟨g, 0, none⟩) n c).ownBlock := hg
 have hbg : b ≤ g := (h.row.lt (b := g) rfl).1
 have hbu : b ≤ u.heap.size := by have := h.r0.lt; omega
 have hb : Below b u u' := ⟨hg.os, hg.tape, hg.output, hg.size, fun j hj => hg.block j (by omega) (fun e => by cases e; omega)⟩
 have hm : (k ++ [z]).map Sg.ct = (k ++ [y]).map Sg.ct := by simp [hz]
 refine ⟨⟨bz_os5 h.r0 h.row (by decide) hgo, bz_os5 h.r1 h.row (by decide) hgo, bz_os5 h.fx h.row (by decide) hgo, bz_os5 h.ox h.row (by decide) hgo, ho, by rw [hm]; exact h.nf, by rw [hm]; exact h.bits, ?_, by have := h.len; simpa using this, ?_, ?_, ?_, fun e => by (cases e), ?_, h.pre, h.bel.trans hb⟩, Nz.grown hg (fun r e => ?_), hb⟩
 ·intro x hx
  rcases List.mem_append.1 hx with hx | hx
  ·exact h.lo x (by simp [hx])
  ·rw [List.mem_singleton.1 hx, hz]; exact h.lo y (by simp)
 ·intro x hx
  rcases List.mem_append.1 hx with hx | hx
  ·exact rd_gr (h.rd x (by simp [hx])) hgo (fun p hp => h.ra x (by simp [hx]) p hp)
  ·rw [List.mem_singleton.1 hx]
   exact rd_gr hr hg (fun p hp e => (hq p hp).2 (Option.some.inj e).symm)
 ·intro x hx
  rcases List.mem_append.1 hx with hx | hx
  ·exact h.no x (by simp [hx])
  ·rw [List.mem_singleton.1 hx]; exact hn
 ·intro x hx p hp
  rcases List.mem_append.1 hx with hx | hx
  ·exact Nat.lt_of_lt_of_le (h.pl x (by simp [hx]) p hp) hg.size
  ·rw [List.mem_singleton.1 hx] at hp; exact Nat.lt_of_lt_of_le (hq p hp).1 hg.size
 ·intro x hx p hp
  rcases List.mem_append.1 hx with hx | hx
  ·exact h.ra x (by simp [hx]) p hp
  ·rw [List.mem_singleton.1 hx] at hp
   exact fun e => (hq p hp).2 (Option.some.inj e).symm
 ·obtain ⟨cur, hc⟩ := h.row.typed (b := g) rfl
  cases e
  exact ⟨cur, _, hc⟩
theorem okS.short {s : Sc} (h : okS s) : s.ws.length ≤ 64 := by
 rcases h.2.2.2 with ⟨-, -, -, h9⟩ | ⟨-, -, h9⟩
 ·have := right_W h9
  omega
 ·simp [h9]
theorem rd_oww {w : World} {B n c : Nat} {a : Option Addr} {ws : List Nat} (h : OwW w B (.slice a n c) ws) (hl : ws.length ≤ 1048576) (hx : ∀ y ∈ ws, y < 18446744073709551616) : Rd w a ws := by
 refine ⟨hl, hx, ?_⟩
 rcases h.2 with ⟨e, h0⟩ | ⟨g, cap, cur, e, -⟩
 ·exact .inl (List.eq_nil_of_length_eq_zero h0)
 ·cases e
  refine .inr ⟨g, 0, rfl, fun i hi => ?_⟩
  have h9 := World.ownsRow.cells h (g := g) rfl i (.int .u64 ((ws.getD i 0 : Nat) : Int)) (by simp [u64s, List.getD, hi])
  rw [Addr.add_lit] at h9
  exact h9
theorem Gi.merge {w u u1 : World} {b g n c M : Nat} {L : List Sc} {pre : List Sg} {ow : Bool} {k : List Sg} {x y z : Sg} (h : Gi w b L pre ow (.slice (some ⟨g, 0, none⟩) n c) (k ++ [y]) u) (hM : k.length = M)
  (hA : OwW u b (.slice y.a y.ct.ws.length y.c) y.ct.ws) (hd : ∀ t ∈ k, ∀ p q, y.a = some p → t.a = some q → p.block ≠ q.block)
  (hg : u.grownBy u1 (Value.slice y.a y.ct.ws.length y.c).ownBlock) (hz : z.ct = oneS y.ct x.ct) (hZ : OwW u1 b (.slice z.a z.ct.ws.length z.c) z.ct.ws)
  (hl : ∀ j, (Value.slice z.a z.ct.ws.length z.c).ownBlock = some j → (Value.slice y.a y.ct.ws.length y.c).ownBlock = some j ∨ u.heap.size ≤ j)
  (hx : okS x.ct) (ho : oneB y.ct x.ct = true) (hw : y.ct.wd + x.ct.wd ≤ 4096) (hp : (pre ++ [x]).map Sg.ct <+: L) :
  Gi w b L (pre ++ [x]) true (.slice (some ⟨g, 0, none⟩) n c) (k ++ [z]) ((put5 u1 g (M * 5) z).setCell ⟨b + 1 + 1 + 1, 0, none⟩ (.bool true)) ∧ Nz u ((put5 u1 g (M * 5) z).setCell ⟨b + 1 + 1 + 1, 0, none⟩ (.bool true)) ∧ Below b u ((put5 u1 g (M * 5) z).setCell ⟨b + 1 + 1 + 1, 0, none⟩ (.bool true)) := by
 have hyo : okS y.ct := h.nf.ok y.ct (by simp)
 have hzo : okS z.ct := by rw [hz]; exact oneS_ok hyo hx hw
 have hgt := h.row.typed (b := g) rfl
 have hgl := h.row.lt (b := g) rfl
 have hyg : (Value.slice y.a y.ct.ws.length y.c).ownBlock ≠ some g := fun e => by
  obtain ⟨cur, hc⟩ := hgt
  obtain ⟨⟨cur', hc'⟩, -⟩ := oww_typed hA e
  rw [hc] at hc'
  cases hc'
 have hy0 : ∀ j, (Value.slice y.a y.ct.ws.length y.c).ownBlock = some j → b ≤ j := fun j e => (oww_typed hA e).2
 have hr1 : OS5 u1 b (.slice (some ⟨g, 0, none⟩) n c) (k ++ [y]) := h.row.move fun j hj => by
  cases hj
  exact hg.block g hgl.2 (fun e => hyg e.symm)
 obtain ⟨hr2, hg2⟩ := os5_put5 z hr1 hM
 have q0 := bz_os5 (bz_oww h.r0 hA (by decide) hg) hr1 (by decide) hg2
 have q1 := bz_os5 (bz_oww h.r1 hA (by decide) hg) hr1 (by decide) hg2
 have q2 := bz_os5 (bz_oww h.fx hA (by decide) hg) hr1 (by decide) hg2
 have q3 := bz_os5 (bz_oww h.ox hA (by decide) hg) hr1 (by decide) hg2
 have hbu : b ≤ u.heap.size := by have := h.r0.lt; omega
 have b1 : Below b u u1 := ⟨hg.os, hg.tape, hg.output, hg.size, fun j hj => hg.block j (by omega) (fun e => by have := hy0 j e.symm; omega)⟩
 have b2 : Below b u1 (put5 u1 g (M * 5) z) := ⟨hg2.os, hg2.tape, hg2.output, hg2.size, fun j hj => hg2.block j (by have := hg.size; omega) (fun e => by cases e; omega)⟩
 have b3 : Below b u ((put5 u1 g (M * 5) z).setCell ⟨b + 1 + 1 + 1, 0, none⟩ (.bool true)) := (b1.trans b2).setCell (p := ⟨b + 1 + 1 + 1, 0, none⟩) (by simp only []; omega) _
 have hzg : ∀ p, z.a = some p → p.block ≠ g := fun p hp9 e => by
  rcases hl p.block (by rw [hp9]; rfl) with h9 | h9
  ·rw [e] at h9; exact hyg h9
  ·omega
 have hzr : Rd u1 z.a z.ct.ws := rd_oww hZ (by have := hzo.short; omega) hzo.2.2.1
 have hsz : u.heap.size ≤ ((put5 u1 g (M * 5) z).setCell ⟨b + 1 + 1 + 1, 0, none⟩ (.bool true)).heap.size := b3.size
 have hzt : ∀ t ∈ k, ∀ p q, z.a = some p → t.a = some q → p.block ≠ q.block := fun t ht p q hp9 hq9 e => by
  rcases hl p.block (by rw [hp9]; rfl) with h9 | h9
  ·cases hya : y.a with
   | none => rw [hya] at h9; cases h9
   | some r =>
    rw [hya] at h9
    exact hd t ht r q hya hq9 (by rw [← e]; exact Option.some.inj h9)
  ·have := h.pl t (by simp [ht]) q hq9
   omega
 have hZ2 : OwW (put5 u1 g (M * 5) z) b (.slice z.a z.ct.ws.length z.c) z.ct.ws := World.ownsRow.kept hZ hg2 (.inr fun e => by
  cases hza : z.a with
  | none => rw [hza] at e; cases e
  | some p => rw [hza] at e; exact hzg p hza (Option.some.inj e))
 refine ⟨⟨q0.other (by omega) 0 _, q1.other (by omega) 0 _, q2.other (by omega) 0 _, q3.set 0 _, os5_set hr2 q3 (by decide) _, ?_, ?_, ?_, by have := h.len; simpa using this, ?_, ?_, ?_, fun _ => ⟨k, z, rfl, oww_set hZ2 q3 (by decide) _, hzt⟩, ?_, hp, h.bel.trans b3⟩, ?_, b3⟩
 ·have h9 := h.nf
  rw [List.map_append] at h9 ⊢
  rw [show [z].map Sg.ct = [oneS y.ct x.ct] by simp [hz]]
  exact Nf.last h9 (by rw [← hz]; exact hzo)
 ·have h9 := h.bits
  rw [List.map_append] at h9 ⊢
  rw [show [z].map Sg.ct = [oneS y.ct x.ct] by simp [hz], formP_one hyo hx ho, List.map_append, formP_app (pre.map Sg.ct), ← h9]
  rfl
 ·intro t ht
  rcases List.mem_append.1 ht with ht | ht
  ·exact h.lo t (by simp [ht])
  ·rw [List.mem_singleton.1 ht, hz]
   have h9 := h.lo y (by simp)
   unfold oneS
   split
   ·simp
   ·exact h9
 ·intro t ht
  rcases List.mem_append.1 ht with ht | ht
  ·have t1 : Rd u1 t.a t.ct.ws := rd_gr (h.rd t (by simp [ht])) hg (fun q hq9 e => by
    cases hya : y.a with
    | none => rw [hya] at e; cases e
    | some r => rw [hya] at e; exact hd t ht r q hya hq9 (Option.some.inj e))
   have t2 := rd_gr t1 hg2 (fun q hq9 e => h.ra t (by simp [ht]) q hq9 e)
   exact rd_set t2 q3 (no_u64 (fun n e => by cases e)) 0 _
  ·rw [List.mem_singleton.1 ht]
   have t2 := rd_gr hzr hg2 (fun q hq9 e => hzg q hq9 (Option.some.inj e).symm)
   exact rd_set t2 q3 (no_u64 (fun n e => by cases e)) 0 _
 ·intro t ht
  rcases List.mem_append.1 ht with ht | ht
  ·exact h.no t (by simp [ht])
  ·rw [List.mem_singleton.1 ht]
   intro e
   rcases hZ.2 with ⟨e9, -⟩ | ⟨g9, cap, cur, e9, -⟩
   ·simp at e9
    exact e9.2.2
   ·rw [e] at e9; simp at e9
 ·intro t ht p hp9
  rcases List.mem_append.1 ht with ht | ht
  ·exact Nat.lt_of_lt_of_le (h.pl t (by simp [ht]) p hp9) hsz
  ·rw [List.mem_singleton.1 ht] at hp9
   have h9 := (World.ownsRow.lt hZ2 p.block (by rw [hp9]; rfl)).2
   simpa using h9
 ·intro t ht p hp9
  rcases List.mem_append.1 ht with ht | ht
  ·exact h.ra t (by simp [ht]) p hp9
  ·rw [List.mem_singleton.1 ht] at hp9
   exact fun e => hzg p hp9 (Option.some.inj e).symm
 ·refine ((Nz.grown hg (fun r e => ?_)).trans (Nz.grown hg2 (fun r e => ?_))).trans (Nz.set q3 _)
  ·obtain ⟨⟨cur, hc⟩, -⟩ := oww_typed hA e
   exact ⟨cur, _, hc⟩
  ·cases e
   obtain ⟨cur, hc⟩ := hr1.typed (b := g) rfl
   exact ⟨cur, _, hc⟩
theorem heap_put2 {w : World} {b g o : Nat} {cs : Array Value} {t : TypeId} {y : Sg} (h : Bz w b cs t) (e : b ≠ g) : Bz (put2 w g o y) b cs t := (h.other e _ _).other e _ _
theorem oww_form {w : World} {B : Nat} {v : Value} {l : List Nat} (h : OwW w B v l) : ∃ a c, v = .slice a l.length c := by
 rcases h.2 with ⟨e, h0⟩ | ⟨g, cap, cur, e, -⟩
 ·exact ⟨none, 0, by rw [h0]; exact e⟩
 ·exact ⟨_, _, e⟩
theorem os5_oww {w w' : World} {B B' : Nat} {v v' : Value} {l : List Sg} {xs : List Nat} (h : OS5 w B v l) (hA : OwW w B' v' xs) (hg : w.grownBy w' v'.ownBlock) : OS5 w' B v l := h.move fun j hj => hg.block j (h.lt hj).2 (fun e => by
 obtain ⟨cur, hc⟩ := h.typed hj
 obtain ⟨⟨cur', hc'⟩, -⟩ := oww_typed hA e.symm
 rw [hc] at hc'
 cases hc')
def OG (b : Nat) (ow : Bool) (v : Value) (l : List Sg) : Nat → Prop := fun k => k = b + 1 + 1 ∨ k = b + 1 + 1 + 1 ∨ v.ownBlock = some k ∨ (ow = true ∧ ∃ l' x q, l = l' ++ [x] ∧ x.a = some q ∧ q.block = k)
theorem Gi.lt {w W : World} {b : Nat} {L : List Sc} {pre : List Sg} {ow : Bool} {v : Value} {l : List Sg} (h : Gi w b L pre ow v l W) : ∀ k, OG b ow v l k → k < W.heap.size := fun k hk => by
 rcases hk with rfl | rfl | hk | ⟨-, l', x, q, rfl, hq, rfl⟩
 ·exact h.fx.lt
 ·exact h.ox.lt
 ·exact (h.row.lt hk).2
 ·exact h.pl x (by simp) q hq
theorem Ko.grown {O : Nat → Prop} {W A B : World} {row : Option Nat} (h : Ko O W A) (hg : A.grownBy B row) (hr : ∀ r, row = some r → O r ∨ W.heap.size ≤ r) : Ko O W B := ⟨Nat.le_trans h.1 hg.size, fun k o hk hc hn => by
 have h9 := h.2 k o hk hc hn
 rw [hg.block k (Array.getElem?_eq_some_iff.1 h9).1 (fun e => by
  rcases hr k e.symm with h8 | h8
  ·exact hn h8
  ·have := (Array.getElem?_eq_some_iff.1 hk).1; omega)]
 exact h9⟩
theorem Ko.set {O : Nat → Prop} {W A : World} (h : Ko O W A) {β i : Nat} (hb : O β) (u : Value) : Ko O W (A.setCell ⟨β, i, none⟩ u) := ⟨by have := h.1; simpa using this, fun k o hk hc hn => by
 rw [heap_setCell_other _ _ _ _ (fun e => hn (by simp only [] at e; rw [e]; exact hb))]
 exact h.2 k o hk hc hn⟩
theorem Ko.below {O : Nat → Prop} {W A B : World} (h : Ko O W A) (hb : Below A.heap.size A B) : Ko O W B := h.trans ((Cz.below hb).ko O)
theorem Ko.refl (O : Nat → Prop) (W : World) : Ko O W W := (Cz.refl W).ko O
theorem app_ko {W m w6 : World} {b N g6 c6 vc : Nat} {va : Option Addr} {ow : Bool} {k : List Sg} {x : Sg} (h : Ko (OG b ow (.slice va N vc) k) W m) (hg : m.grownBy w6 (Value.slice va N vc).ownBlock) (hl : (Value.slice va N vc).ownBlock = some g6 ∨ g6 = m.heap.size) :
  Ko (OG b ow (.slice va N vc) k) W ((w6.setCell ⟨b + 1 + 1, 0, none⟩ (.slice (some ⟨g6, 0, none⟩) (N + 1) c6)).setCell ⟨b + 1 + 1 + 1, 0, none⟩ (.bool false)) ∧ ∀ r, OG b false (.slice (some ⟨g6, 0, none⟩) (N + 1) c6) (k ++ [x]) r → OG b ow (.slice va N vc) k r ∨ W.heap.size ≤ r := by
 refine ⟨((h.grown hg (fun r hr => .inl (.inr (.inr (.inl hr))))).set (.inl rfl) _).set (.inr (.inl rfl)) _, fun r hr => ?_⟩
 rcases hr with hr | hr | hr | ⟨hr, -⟩
 ·exact .inl (.inl hr)
 ·exact .inl (.inr (.inl hr))
 ·have e : g6 = r := Option.some.inj hr
  subst e
  rcases hl with hl | hl
  ·exact .inl (.inr (.inr (.inl hl)))
  ·exact .inr (by have := h.1; omega)
 ·cases hr
theorem merge_ko {W u u1 : World} {b g n c M : Nat} {O : Nat → Prop} {k : List Sg} {y z : Sg} (h : Ko O W u) (h2 : O (b + 1 + 1)) (h3 : O (b + 1 + 1 + 1)) (hOg : O g) (hy : ∀ r, (Value.slice y.a y.ct.ws.length y.c).ownBlock = some r → O r ∨ W.heap.size ≤ r)
  (hr : OS5 u1 b (.slice (some ⟨g, 0, none⟩) n c) (k ++ [y])) (hM : k.length = M)
  (hg : u.grownBy u1 (Value.slice y.a y.ct.ws.length y.c).ownBlock) (hl : ∀ j, (Value.slice z.a z.ct.ws.length z.c).ownBlock = some j → (Value.slice y.a y.ct.ws.length y.c).ownBlock = some j ∨ u.heap.size ≤ j) :
  Ko O W ((put5 u1 g (M * 5) z).setCell ⟨b + 1 + 1 + 1, 0, none⟩ (.bool true)) ∧ ∀ r, OG b true (.slice (some ⟨g, 0, none⟩) n c) (k ++ [z]) r → O r ∨ W.heap.size ≤ r := by
 refine ⟨((h.grown hg hy).grown (os5_put5 z hr hM).2 (fun r hr => .inl (by cases hr; exact hOg))).set h3 _, fun r hr => ?_⟩
 rcases hr with hr | hr | hr | ⟨-, l', x, q, he, hq, rfl⟩
 ·exact .inl (by rw [hr]; exact h2)
 ·exact .inl (by rw [hr]; exact h3)
 ·have e : g = r := Option.some.inj hr
  exact .inl (by rw [← e]; exact hOg)
 ·obtain ⟨-, e2⟩ := List.append_inj' he rfl
  cases e2
  rcases hl q.block (by rw [hq]; rfl) with h9 | h9
  ·exact hy _ h9
  ·exact .inr (Nat.le_trans h.1 h9)

open Go.RowKit Go.Shelf
attribute [local go_sem] Oper.semAt_some

structure AtS (B : Nat) (w : World) (x : Sg) : Prop where
 ok : okS x.ct
 lo : 0 ≤ x.ct.lo ∧ x.ct.lo + x.ct.wd ≤ 4096
 rd : Rd w x.a x.ct.ws
 no : x.a = none → x.c = 0
 pl : ∀ q, x.a = some q → q.block < B
theorem rd_low {w w' : World} {B : Nat} {a : Option Addr} {xs : List Nat} (h : Rd w a xs) (hb : Below B w w') (hp : ∀ q, a = some q → q.block < B) : Rd w' a xs := by
 obtain ⟨h1, h2, h3⟩ := h
 refine ⟨h1, h2, ?_⟩
 rcases h3 with h3 | ⟨b, o, rfl, hc⟩
 ·exact .inl h3
 ·exact .inr ⟨b, o, rfl, fun i hi => (hb.cell (p := ⟨b, o + i, none⟩) (hp ⟨b, o, none⟩ rfl)).trans (hc i hi)⟩
set_option maxHeartbeats 2000000 in
set_option maxRecDepth 100000 in
theorem between_seq (n : Nat) (lo en B : Nat) (bf bl be fb fo fc N : Nat) (xs : List Sg) (w : World) (hB : B ≤ w.heap.size) (hN : xs.length = N) (hN2 : N ≤ 2000) (hxs : ∀ x ∈ xs, AtS B w x) (hsum : sumS (xs.map Sg.ct) ≤ 4096) (hlo : lo ≤ 4096) (hen : en ≤ 4096)
  (h1 : Bz w bf #[.slice (some ⟨fb, fo, none⟩) N fc] 45) (h2 : Bz w bl #[.int .i64 (lo : Int)] 2) (h3 : Bz w be #[.int .i64 (en : Int)] 2) (l1 : bf < B) (l2 : bl < B) (l3 : be < B) (l4 : fb < B)
  (hc : ∀ i x, xs[i]? = some x → ShAt w fb (fo + i * 5) x.hd) :
  SeqS n 116 #[.pointer (some ⟨bf, 0, none⟩), .pointer (some ⟨bl, 0, none⟩), .pointer (some ⟨be, 0, none⟩)] (betS lo en 0 (xs.map Sg.ct)) B w := by
 intro l J Jx O0 W hbW hJ hJx hlt hOw h0
 refine callsIn_of_wp Tryz.func116 rfl trivial ?_ rfl
 simp only [Tryz.ntmps116, List.size_toArray, List.length_cons, List.length_nil, Nat.reduceAdd, Nat.reduceSub, Array.replicate_succ, Array.replicate_zero, List.push_toArray, List.append_toArray, List.nil_append, List.cons_append]
 have c1 := (hbW.cell (p := ⟨bf, 0, none⟩) l1).trans (h1.cell 0)
 simp at c1
 have hct : ∀ k : Nat, (formP ((xs.map Sg.ct).take k)).length ≤ 4096 := fun k => by
  have h9 := formP_len ((xs.map Sg.ct).take k) (fun s hs => by
   obtain ⟨x, hx, rfl⟩ := List.mem_map.1 (List.mem_of_mem_take hs)
   have := (hxs x hx).ok.1
   omega)
  have h8 := take_sum (fs := xs.map Sg.ct) (fun s hs => by
   obtain ⟨x, hx, rfl⟩ := List.mem_map.1 hs
   exact (hxs x hx).ok.1) k
  omega
 have HCT := kide hct
 have HX := kide hxs
 have HC := kide hc
 have H1 := kide h1
 have H2 := kide h2
 have H3 := kide h3
 have HN := kide hN
 have HJ := kide hJ
 have HOW := kide hOw
 have HBW := kide hbW
 have hmx : Tryz.prog.follows .mixedOrders = true := by kernel_rfl
 have HLT := kide hlt
 clear hct hxs hc h1 h2 h3 hN hJ hOw hbW hsum hJx hlt
 gi_wp2
 gi_loopw [5, 12] (fun f i wr => ∃ (k : Nat) (pre : List Sg) (O : Nat → Prop), k ≤ N ∧ i = .int .i64 (k : Int) ∧ f = .int .i64 ((formP ((xs.map Sg.ct).take k)).length : Int) ∧ pre.map Sg.ct = betS lo en 0 ((xs.map Sg.ct).take k) ∧ J (pre, O) wr ∧ Below B W wr) (fun _ i _ => N - (intOf i).toNat)
 case atStart => exact ⟨0, [], O0, Nat.zero_le _, rfl, by simp [formP], by simp [betS], h0, Below.refl _ _⟩
 case round =>
  obtain ⟨k, pre, O, hk, rfl, rfl, hpre, hJp, hBr⟩ := hrel
  have hF := HCT.out k
  obtain ⟨F0, hF0⟩ : ∃ F0, (formP ((xs.map Sg.ct).take k)).length = F0 := ⟨_, rfl⟩
  rw [hF0] at hF ⊢
  have HPR := kide hpre
  have HJP := kide hJp
  have HBR := kide hBr
  have HF0 := kide hF0
  clear hpre hJp hBr hF0
  by_cases hlt : k < N
  ·obtain ⟨x, hx⟩ : ∃ x, xs[k]? = some x := ⟨xs[k]'(by rw [HN.out]; exact hlt), List.getElem?_eq_getElem _⟩
   have HXA := kide (HX.out x (List.mem_of_getElem? hx))
   obtain ⟨p0, p1, p2, p3, p4⟩ := HC.out k x hx
   simp only [Sg.hd] at p0 p1 p2 p3 p4
   have hB9 := HBW.out.trans HBR.out
   replace p0 := (hB9.cell (p := ⟨fb, fo + k * 5, none⟩) l4).trans p0
   replace p1 := (hB9.cell (p := ⟨fb, fo + k * 5 + 1, none⟩) l4).trans p1
   replace p2 := (hB9.cell (p := ⟨fb, fo + k * 5 + 2, none⟩) l4).trans p2
   replace p3 := (hB9.cell (p := ⟨fb, fo + k * 5 + 3, none⟩) l4).trans p3
   replace p4 := (hB9.cell (p := ⟨fb, fo + k * 5 + 4, none⟩) l4).trans p4
   have g2 := (hB9.cell (p := ⟨bl, 0, none⟩) l2).trans (H2.out.cell 0)
   have g3 := (hB9.cell (p := ⟨be, 0, none⟩) l3).trans (H3.out.cell 0)
   simp at g2 g3
   have HXK := kide hx
   have hkN : (k : Int) < (N : Int) := by omega
   have hk0 : (k : Int) ≥ 0 := by omega
   have q2 : bl < wr.heap.size := by have := hB9.size; omega
   have q3 : be < wr.heap.size := by have := hB9.size; omega
   obtain ⟨D, hD⟩ : ∃ D : Nat, x.ct.wd = (D : Int) := ⟨x.ct.wd.toNat, by have := HXA.out.ok.1; omega⟩
   have hD2 : D ≤ 4096 := by have := HXA.out.ok.2.1; omega
   have HD := kide hD
   rw [hD] at p2
   have hFw : IntKind.i64.wrap ((F0 : Int) + (D : Int)) = (F0 : Int) + (D : Int) := by rw [IntKind.wrap_i64]; omega
   obtain ⟨fr, hfr⟩ : ∃ fr, max F0 lo = fr := ⟨_, rfl⟩
   obtain ⟨to, hto⟩ : ∃ to, min (F0 + D) en = to := ⟨_, rfl⟩
   have hfri : max (F0 : Int) (lo : Int) = (fr : Int) := by omega
   have htoi : min ((F0 : Int) + (D : Int)) (en : Int) = (to : Int) := by omega
   have hbs := betS_snoc lo en (xs.map Sg.ct) (k := k) (s := x.ct) (by rw [List.getElem?_map, hx]; rfl)
   rw [HF0.out, show x.ct.wd.toNat = D by rw [hD]; rfl, hfr, hto] at hbs
   have HBS := kide hbs
   have HNX : Hid ((formP ((xs.map Sg.ct).take (k + 1))).length = F0 + D) := by
    show _ = _
    rw [formP_snoc (xs.map Sg.ct) (k := k) (s := x.ct) (by rw [List.getElem?_map, hx]; rfl), List.length_append, HF0.out, segPs_len, show x.ct.wd.toNat = D by rw [hD]; rfl]
   have hkw : IntKind.i64.wrap ((k : Int) + 1) = (k : Int) + 1 := by rw [IntKind.wrap_i64]; omega
   have BV : Hid (Below wr.heap.size wr (wr.alloc (Obj.cells #[.int .i64 x.ct.v, .int .i64 x.ct.lo, .int .i64 (D : Int), .int .i64 x.ct.bw, .slice x.a x.ct.ws.length x.c] 73)).drew) := (blA _ _).drew
   have XV : Hid (Bz (wr.alloc (Obj.cells #[.int .i64 x.ct.v, .int .i64 x.ct.lo, .int .i64 (D : Int), .int .i64 x.ct.bw, .slice x.a x.ct.ws.length x.c] 73)).drew wr.heap.size #[.int .i64 x.ct.v, .int .i64 x.ct.lo, .int .i64 (D : Int), .int .i64 x.ct.bw, .slice x.a x.ct.ws.length x.c] 73) := Bz.new wr _ _
   have hBz := hB9.size
   clear hx hB9 hD hbs
   gi_wp2
   gi_region
   generalize (wr.alloc (Obj.cells #[.int .i64 x.ct.v, .int .i64 x.ct.lo, .int .i64 (D : Int), .int .i64 x.ct.bw, .slice x.a x.ct.ws.length x.c] 73)).drew = V at *
   have v0 := XV.out.cell 0
   have v1 := XV.out.cell 1
   have v2 := XV.out.cell 2
   have v3 := XV.out.cell 3
   have v4 := XV.out.cell 4
   simp at v0 v1 v2 v3 v4
   by_cases hft : fr < to
   ·rw [if_pos hft] at HBS
    have hd1 : (fr : Int) < (to : Int) := by omega
    have hs1 : IntKind.i64.wrap ((fr : Int) - (F0 : Int)) = ((fr - F0 : Nat) : Int) := by rw [IntKind.wrap_i64]; omega
    have hs2 : IntKind.i64.wrap ((to : Int) - (fr : Int)) = ((to - fr : Nat) : Int) := by rw [IntKind.wrap_i64]; omega
    have hnn : ¬ (fr < F0) := by omega
    have HSP := kide (fun u (hu : Below wr.heap.size wr u) => segPart_any x (fr - F0) (to - fr) u HXA.out.ok HXA.out.lo (by omega) (by rw [HD.out]; omega) ((rd_low HXA.out.rd (HBW.out.trans HBR.out) HXA.out.pl).later hu) HXA.out.no (fun q hq => by have h9 := HXA.out.pl q hq; have := hu.size; omega))
    rw [HD.out] at HSP
    clear hfri htoi hfr hto
    gi_wp2
    refine ⟨trivial, (fun h => by cases h), callsIn_wide.2 (Calls.mono (HSP.out V BV.out) ?_)⟩
    rintro e V2 ⟨a2, c2, rfl, hr2, hn2, hq2, hb2⟩
    obtain ⟨Y, hYc, hYa, hYd⟩ : ∃ Y : Sg, Y.ct = cutS x.ct (fr - F0) (to - fr) ∧ Y.a = a2 ∧ Y.c = c2 := ⟨⟨_, a2, c2⟩, rfl, rfl, rfl⟩
    subst hYa hYd
    have eY : sgV ⟨cutS x.ct (fr - F0) (to - fr), Y.a, Y.c⟩ = sgV Y := by rw [← hYc]
    rw [← hYc] at hr2 HBS
    have hb3 := BV.out.trans (hb2.mono BV.out.size)
    have J2 := HJ.out _ _ V2 none HJP.out ⟨hb3.os, hb3.tape, hb3.output, hb3.size, fun j hj _ => hb3.block j hj⟩ (fun r e => by cases e)
    have hRdy : RdyS B (betS lo en 0 (xs.map Sg.ct)) wr.heap.size pre Y V2 := by
     refine ⟨?_, hr2, hn2, fun q hq => ⟨?_, (hq2 q hq).2⟩⟩
     ·rw [List.map_append, HPR.out, show [Y].map Sg.ct = [Y.ct] from rfl, ← HBS.out]
      exact betS_pre lo en _ _
     ·rcases (hq2 q hq).1 with h9 | h9
      ·exact .inl (HXA.out.pl q h9)
      ·exact .inr (Nat.le_trans BV.out.size h9)
    obtain ⟨fn, tmps, assign, body, hy, hR⟩ := HOW.out pre O Y wr V2 HJP.out (Cz.below hb3) J2 hRdy
    have v2 := (hb2.cell (p := ⟨wr.heap.size, 2, none⟩) XV.out.lt).trans v2
    have XV2 := kide (XV.out.later hb2)
    have HB3 := kide hb3
    have HYC := kide hYc
    have HNO : Hid (¬ O wr.heap.size) := fun h9 => by have := HLT.out _ _ HJP.out _ h9; omega
    clear hr2 hn2 hq2 hb2 hb3 J2 hRdy hYc
    rw [eY]
    clear eY
    unfold sgV at hy ⊢
    gi_wp2
    refine ⟨(fun h => by cases h), hR.mono ?_⟩
    rintro e W3 (⟨rfl, hK3, hO3, -, O', hJ3, hI3⟩ | ⟨rfl, -, hJx3⟩)
    ·have v3 := (show Bz W3 wr.heap.size _ _ from hO3.2 _ _ XV2.out rfl HNO.out).cell 2
     simp at v3
     gi_wp2
     go_roundw
     case rel => exact ⟨k + 1, pre ++ [Y], O', by omega, rfl, by rw [HNX.out]; rfl, by rw [HBS.out, List.map_append, HPR.out]; rfl, hJ3, (HBR.out.trans (HB3.out.mono (by have := HBR.out.size; have := HBW.out.size; omega))).trans hK3⟩
     case measure => simp only [intOf]; omega
    ·gi_wp2
     refine bodyPost_ret (results_none rfl _ _ _) rfl ?_
     refine ⟨⟨_, rfl⟩, .inr ⟨_, ?_, hJx3⟩⟩
     rw [List.map_append, HPR.out, show [Y].map Sg.ct = [Y.ct] from rfl, ← HBS.out]
     exact betS_pre lo en _ _
   ·rw [if_neg hft, List.append_nil] at HBS
    have hd1 : ¬ (fr : Int) < (to : Int) := by omega
    clear hfri htoi hfr hto
    gi_wp2
    refine ⟨trivial, ?_⟩
    gi_wp2
    refine ⟨(fun _ h => by cases h), ?_⟩
    gi_wp2
    go_roundw
    case rel => exact ⟨k + 1, pre, O, by omega, rfl, by rw [HNX.out]; rfl, by rw [HBS.out]; exact HPR.out, HJ.out _ _ _ none HJP.out ⟨BV.out.os, BV.out.tape, BV.out.output, BV.out.size, fun j hj _ => BV.out.block j hj⟩ (fun r e => by cases e), HBR.out.trans (BV.out.mono (by have := HBR.out.size; have := HBW.out.size; omega))⟩
    case measure => simp only [intOf]; omega
  ·obtain rfl : k = N := by omega
   gi_wp2
   go_end0
   refine ⟨⟨_, rfl⟩, .inl ⟨pre, O, ?_, HJP.out⟩⟩
   rw [HPR.out, List.take_of_length_le (by simp [HN.out])]
open Go.RowKit Go.Shelf
attribute [local go_sem] Oper.semAt_some
set_option maxHeartbeats 400000 in
theorem values_any (va : Option Addr) (N vc : Nat) (w : World) :
  Calls Tryz.prog 95 #[.slice va N vc] w fun e w' => e = .returned (.func (.func 119) #[] #[.pointer (some ⟨w.heap.size, 0, none⟩)]) ∧ w' = w.alloc (Obj.cells #[.slice va N vc] 45) := by
 go_enter Tryz.func95, Tryz.ntmps95
 go_wp2_with fail
 go_ret
 exact ⟨rfl, rfl⟩
set_option maxHeartbeats 2000000 in
set_option maxRecDepth 100000 in
theorem values_seq (n : Nat) (B : Nat) (bf fb fo fc N : Nat) (xs : List Sg) (w : World) (hB : B ≤ w.heap.size) (hN : xs.length = N) (hN2 : N ≤ 2000) (hxs : ∀ x ∈ xs, AtS B w x)
  (h1 : Bz w bf #[.slice (some ⟨fb, fo, none⟩) N fc] 45) (l1 : bf < B) (l4 : fb < B)
  (hc : ∀ i x, xs[i]? = some x → ShAt w fb (fo + i * 5) x.hd) :
  SeqS n 119 #[.pointer (some ⟨bf, 0, none⟩)] (xs.map Sg.ct) B w := by
 intro l J Jx O0 W hbW hJ hJx hlt hOw h0
 refine callsIn_of_wp Tryz.func119 rfl trivial ?_ rfl
 simp only [Tryz.ntmps119, List.size_toArray, List.length_cons, List.length_nil, Nat.reduceAdd, Nat.reduceSub, Array.replicate_succ, Array.replicate_zero, List.push_toArray, List.append_toArray, List.nil_append, List.cons_append]
 have c1 := (hbW.cell (p := ⟨bf, 0, none⟩) l1).trans (h1.cell 0)
 simp at c1
 have HX := kide hxs
 have HC := kide hc
 have HN := kide hN
 have HJ := kide hJ
 have HOW := kide hOw
 have HBW := kide hbW
 clear hxs hc h1 hN hJ hOw hbW hJx hlt
 gi_wp2
 gi_loopw [7] (fun i wr => ∃ (k : Nat) (pre : List Sg) (O : Nat → Prop), k ≤ N ∧ i = .int .i64 (k : Int) ∧ pre.map Sg.ct = (xs.take k).map Sg.ct ∧ J (pre, O) wr ∧ Below B W wr) (fun i _ => N - (intOf i).toNat)
 case atStart => exact ⟨0, [], O0, Nat.zero_le _, rfl, by simp, h0, Below.refl _ _⟩
 case round =>
  obtain ⟨k, pre, O, hk, rfl, hpre, hJp, hBr⟩ := hrel
  have HPR := kide hpre
  have HJP := kide hJp
  have HBR := kide hBr
  clear hpre hJp hBr
  by_cases hlt : k < N
  ·obtain ⟨x, hx⟩ : ∃ x, xs[k]? = some x := ⟨xs[k]'(by rw [HN.out]; exact hlt), List.getElem?_eq_getElem _⟩
   have HXA := kide (HX.out x (List.mem_of_getElem? hx))
   obtain ⟨p0, p1, p2, p3, p4⟩ := HC.out k x hx
   simp only [Sg.hd] at p0 p1 p2 p3 p4
   have hB9 := HBW.out.trans HBR.out
   replace p0 := (hB9.cell (p := ⟨fb, fo + k * 5, none⟩) l4).trans p0
   replace p1 := (hB9.cell (p := ⟨fb, fo + k * 5 + 1, none⟩) l4).trans p1
   replace p2 := (hB9.cell (p := ⟨fb, fo + k * 5 + 2, none⟩) l4).trans p2
   replace p3 := (hB9.cell (p := ⟨fb, fo + k * 5 + 3, none⟩) l4).trans p3
   replace p4 := (hB9.cell (p := ⟨fb, fo + k * 5 + 4, none⟩) l4).trans p4
   have hkN : (k : Int) < (N : Int) := by omega
   have hk0 : (k : Int) ≥ 0 := by omega
   have hkw : IntKind.i64.wrap ((k : Int) + 1) = (k : Int) + 1 := by rw [IntKind.wrap_i64]; omega
   have hbV : Below wr.heap.size wr (wr.alloc (Obj.cells #[.int .i64 x.ct.v, .int .i64 x.ct.lo, .int .i64 x.ct.wd, .int .i64 x.ct.bw, .slice x.a x.ct.ws.length x.c] 73)) := blA _ _
   have HTK : Hid ((xs.take (k + 1)).map Sg.ct = (xs.take k).map Sg.ct ++ [x.ct]) := by
    show _ = _
    rw [List.take_add_one, hx, Option.toList_some, List.map_append]
    rfl
   have hPP : (pre ++ [x]).map Sg.ct <+: xs.map Sg.ct := by
    rw [List.map_append, HPR.out, show [x].map Sg.ct = [x.ct] from rfl, ← HTK.out, List.map_take]
    exact List.take_prefix _ _
   have J2 := HJ.out _ _ (wr.alloc (Obj.cells #[.int .i64 x.ct.v, .int .i64 x.ct.lo, .int .i64 x.ct.wd, .int .i64 x.ct.bw, .slice x.a x.ct.ws.length x.c] 73)) none HJP.out ⟨hbV.os, hbV.tape, hbV.output, hbV.size, fun j hj _ => hbV.block j hj⟩ (fun r e => by cases e)
   obtain ⟨fn, tmps, assign, body, hy, hR⟩ := HOW.out pre O x wr _ HJP.out (Cz.below hbV) J2 ⟨hPP, (rd_low HXA.out.rd hB9 HXA.out.pl).later hbV, HXA.out.no, fun q hq => ⟨.inl (HXA.out.pl q hq), by have h9 := HXA.out.pl q hq; have := hbV.size; have := hB9.size; omega⟩⟩
   have HPP := kide hPP
   have BV := kide hbV
   have hBz := hB9.size
   clear hx hB9 J2 hPP hbV
   unfold sgV at hy
   gi_wp2
   refine ⟨(fun h => by cases h), hR.mono ?_⟩
   rintro e W3 (⟨rfl, hK3, -, -, O', hJ3, -⟩ | ⟨rfl, -, hJx3⟩)
   ·gi_wp2
    go_roundw
    case rel => exact ⟨k + 1, pre ++ [x], O', by omega, rfl, by rw [HTK.out, List.map_append, HPR.out]; rfl, hJ3, (HBR.out.trans (BV.out.mono (by have := HBR.out.size; have := HBW.out.size; omega))).trans hK3⟩
    case measure => simp only [intOf]; omega
   ·gi_wp2
    refine bodyPost_ret (results_none rfl _ _ _) rfl ?_
    exact ⟨⟨_, rfl⟩, .inr ⟨_, HPP.out, hJx3⟩⟩
  ·obtain rfl : k = N := by omega
   gi_wp2
   go_end0
   refine ⟨⟨_, rfl⟩, .inl ⟨pre, O, ?_, HJP.out⟩⟩
   rw [HPR.out, List.take_of_length_le (by simp [HN.out])]
set_option maxHeartbeats 1000000 in
theorem between_any (va : Option Addr) (N vc : Nat) (lo en : Int) (w : World) :
  Calls Tryz.prog 93 #[.slice va N vc, .int .i64 lo, .int .i64 en] w fun e w' => e = .returned (.func (.func 116) #[] #[.pointer (some ⟨w.heap.size, 0, none⟩), .pointer (some ⟨w.heap.size + 1, 0, none⟩), .pointer (some ⟨w.heap.size + 1 + 1, 0, none⟩)]) ∧
   w' = (((w.alloc (Obj.cells #[.slice va N vc] 45)).alloc (Obj.cells #[.int .i64 lo] 2)).alloc (Obj.cells #[.int .i64 en] 2)) := by
 go_enter Tryz.func93, Tryz.ntmps93
 go_wp2_with fail
 go_ret
 exact ⟨rfl, rfl⟩

open Go.RowKit Go.Shelf
attribute [local go_sem] Oper.semAt_some
theorem round_deep {m m' l l' : Nat} {P : Program} {f : FuncId} {tmps : Array Value} {assign body : Code} {w : World} {R : Ending → World → Prop} (h : RoundIn Fence.wide m P l f tmps assign body w R) : RoundIn (Fence.wide.inRound l') m' P l f tmps assign body w R :=
 ⟨trivial, fun c cs _ => h.2 c cs (fun d hd => by cases hd)⟩
def marks (Ds : List Nat) : List Deferred := Ds.map fun D => { target := .collected D, args := #[] }
theorem leaves_all {F : Fence} {n : Nat} {P : Program} {fn : Func} {tmps : Array Value} {R : Ending → World → Prop} (Q : World → Prop) (B : Nat) (hQ : ∀ w D, B ≤ D → w.heap[D]? = some (.deferred (some [])) → Q w → Q (w.putObj D (.deferred none)))
  (hfin : ∀ w, Q w → LeavesIn F n P fn tmps R [] .returning w) : ∀ (Ds : List Nat) (w : World), Ds.Nodup → (∀ D ∈ Ds, B ≤ D ∧ w.heap[D]? = some (.deferred (some []))) → Q w → LeavesInM F n P fn tmps R (marks Ds) .returning w
 | [], w, _, _, hq => hfin w hq
 | D :: Ds, w, hn, hd, hq => by
  obtain ⟨h1, h2⟩ := hd D (by simp)
  refine ⟨by simp, .inl ⟨D, _, rfl, run_takeDeferred h2, leaves_all Q B hQ hfin Ds _ (List.nodup_cons.1 hn).2 (fun E hE => ?_) (hQ w D h1 h2 hq)⟩⟩
  obtain ⟨h3, h4⟩ := hd E (by simp [hE])
  exact ⟨h3, by rw [World.putObj_heap_other (fun e => (List.nodup_cons.1 hn).1 (by rw [← e]; exact hE))]; exact h4⟩

structure Pt where
 g : Nat
 lb : Array Value
 L : List Sc
set_option maxHeartbeats 400000 in
theorem inTurn_any (va : Option Addr) (N vc : Nat) (w : World) :
  Calls Tryz.prog 94 #[.slice va N vc] w fun e w' => e = .returned (.func (.func 118) #[] #[.pointer (some ⟨w.heap.size, 0, none⟩)]) ∧ w' = w.alloc (Obj.cells #[.slice va N vc] 146) := by
 go_enter Tryz.func94, Tryz.ntmps94
 go_wp2_with fail
 go_ret
 exact ⟨rfl, rfl⟩
theorem pt_pre {ps : List Pt} {k : Nat} {p : Pt} {A : List Sc} (hp : ps[k]? = some p) (hA : A <+: p.L) : (ps.take k).flatMap Pt.L ++ A <+: ps.flatMap Pt.L := by
 obtain ⟨r, hr⟩ := hA
 have h9 := List.getElem?_eq_some_iff.1 hp
 have e : ps = ps.take k ++ p :: ps.drop (k + 1) := by rw [← h9.2, ← List.drop_eq_getElem_cons h9.1, List.take_append_drop]
 refine ⟨r ++ (ps.drop (k + 1)).flatMap Pt.L, ?_⟩
 conv => rhs; rw [e, List.flatMap_append, List.flatMap_cons, ← hr]
 simp only [List.append_assoc]
theorem pt_next {ps : List Pt} {k : Nat} {p : Pt} (hp : ps[k]? = some p) : (ps.take (k + 1)).flatMap Pt.L = (ps.take k).flatMap Pt.L ++ p.L := by
 rw [List.take_add_one, hp, Option.toList_some, List.flatMap_append]
 simp

structure Tn (l : Nat) (J : List Sg × (Nat → Prop) → World → Prop) (B : Nat) (W : World) (Ls : List Sc) (pre : List Sg) (O : Nat → Prop) (Ds : List Nat) (wr : World) : Prop where
 j : J (pre, O) wr
 ct : pre.map Sg.ct = Ls
 bel : Below B W wr
 y : Bz wr W.heap.size #[.func (.yield l) #[] #[]] 169
 no : ¬ O W.heap.size
 nd : Ds.Nodup
 ds : ∀ D ∈ Ds, W.heap.size ≤ D ∧ wr.heap[D]? = some (.deferred (some []))
set_option maxHeartbeats 4000000 in
set_option maxRecDepth 100000 in
theorem inTurn_seq (n : Nat) (B : Nat) (bf fb fo fc N : Nat) (ps : List Pt) (w : World) (hB : B ≤ w.heap.size) (hN : ps.length = N) (hN2 : N ≤ 1048576)
  (hps : ∀ p ∈ ps, (∀ (args : Array Value) (w : World), (callFunc p.g args).run Tryz.prog w = .ok (.enter p.g args) w) ∧ ∀ n, SeqS n p.g p.lb p.L B w)
  (h1 : Bz w bf #[.slice (some ⟨fb, fo, none⟩) N fc] 146) (l1 : bf < B) (l4 : fb < B)
  (hc : ∀ i p, ps[i]? = some p → w.cell? ⟨fb, fo + i, none⟩ = some (.func (.func p.g) #[] p.lb)) :
  SeqS n 118 #[.pointer (some ⟨bf, 0, none⟩)] (ps.flatMap Pt.L) B w := by
 intro l J Jx O0 W hbW hJ hJx hlt hOw h0
 refine callsIn_of_wp_marks Tryz.func118 rfl trivial ?_ rfl
 simp only [Tryz.ntmps118, List.size_toArray, List.length_cons, List.length_nil, Nat.reduceAdd, Nat.reduceSub, Array.replicate_succ, Array.replicate_zero, List.push_toArray, List.append_toArray, List.nil_append, List.cons_append]
 have c1 := (hbW.cell (p := ⟨bf, 0, none⟩) l1).trans (h1.cell 0)
 simp at c1
 have l2 : bf < W.heap.size := by have := hbW.size; omega
 have T0 : Hid (Tn l J B W [] [] O0 [] (W.alloc (Obj.cells #[.func (.yield l) #[] #[]] 169))) := by
  refine ⟨hJ.alloc _ h0, rfl, (Below.refl _ _).alloc (by have := hbW.size; omega) _, Bz.new W _ _, fun h9 => ?_, List.nodup_nil, fun D hD => by cases hD⟩
  have := hlt _ _ h0 _ h9
  omega
 have HPS := kide hps
 have HC := kide hc
 have HN := kide hN
 have HJ := kide hJ
 have HJX := kide hJx
 have HLT := kide hlt
 have HOW := kide hOw
 have HBW := kide hbW
 have hBW : B ≤ W.heap.size := by have := hbW.size; omega
 clear hps hc h1 hN hJ hJx hlt hOw hbW
 gi_wp2
 refine wpIn_loop (fun a wr => ∃ (k : Nat) (Ds : List Nat) (pre : List Sg) (O : Nat → Prop) (u3 u4 u5 u9 u10 u11 u12 u13 u14 u15 u16 u17 u18 : Value), k ≤ N ∧ a = { tmps := #[.func (Fn.yield l) #[] #[], .pointer (some ⟨bf, 0, none⟩), .pointer (some ⟨W.heap.size, 0, none⟩), u3, u4, u5, .slice (some ⟨fb, fo, none⟩) N fc, .int .i64 (N : Int), .int .i64 (k : Int), u9, u10, u11, u12, u13, u14, u15, u16, u17, u18], defers := marks Ds } ∧ Tn l J B W ((ps.take k).flatMap Pt.L) pre O Ds wr)
  (fun a _ => N - (intOf (a.tmps.getD 8 undef)).toNat) ⟨0, [], [], O0, _, _, _, _, _, _, _, _, _, _, _, _, _, Nat.zero_le _, rfl, T0.out⟩ ?_
 rintro a wr ⟨k, Ds, pre, O, u3, u4, u5, u9, u10, u11, u12, u13, u14, u15, u16, u17, u18, hk, rfl, hT⟩
 by_cases hkN : k < N
 ·obtain ⟨p, hp⟩ : ∃ p, ps[k]? = some p := ⟨ps[k]'(by rw [HN.out]; exact hkN), List.getElem?_eq_getElem _⟩
  obtain ⟨hen, hsq⟩ := HPS.out p (List.mem_of_getElem? hp)
  have hB9 := HBW.out.trans hT.bel
  have p0 := (hB9.cell (p := ⟨fb, fo + k, none⟩) l4).trans (HC.out k p hp)
  have hk1 : (k : Int) < (N : Int) := by omega
  have hk0 : (k : Int) ≥ 0 := by omega
  have hkw : IntKind.i64.wrap ((k : Int) + 1) = (k : Int) + 1 := by rw [IntKind.wrap_i64]; omega
  have HT := kide hT
  have HEN := kide hen
  have HSQ := kide hsq
  have HB9 := kide hB9
  have HPK := kide hp
  clear hT hen hsq hB9 hp
  have hWr : W.heap.size ≤ wr.heap.size := HT.out.bel.size
  gi_wp2
  refine wpIn_rangeW (F := Fence.wide) rfl (fun h => by cases h) (gf := p.g) (lb := p.lb) rfl trivial HEN.out (HSQ.out (n - 1)) ?kr (fun h k => h.trans k) ?kb ?rp HB9.out (fun _ => rfl)
   (fun s u => J (pre ++ s.1, s.2) u ∧ Below B W u ∧ Bz u W.heap.size #[.func (.yield l) #[] #[]] 169 ∧ ¬ s.2 W.heap.size ∧ ∀ D ∈ Ds, u.heap[D]? = some (.deferred (some [])))
   (fun q u => Jx (pre ++ q) u ∧ ∀ D ∈ Ds, u.heap[D]? = some (.deferred (some []))) O ?hi ?hix ?ho ⟨by simpa using HT.out.j, HT.out.bel, HT.out.y, HT.out.no, fun D hD => (HT.out.ds D hD).2⟩
   (fun T x a' u => ∃ Bx, Bz u Bx #[.int .i64 x.ct.v, .int .i64 x.ct.lo, .int .i64 x.ct.wd, .int .i64 x.ct.bw, .slice x.a x.ct.ws.length x.c] 73 ∧ a' = { tmps := #[.func (Fn.yield l) #[] #[], .pointer (some ⟨bf, 0, none⟩), .pointer (some ⟨W.heap.size, 0, none⟩), u3, .func (Fn.func p.g) #[] p.lb, .pointer (some ⟨Bx, 0, none⟩), .slice (some ⟨fb, fo, none⟩) N fc, .int .i64 (N : Int), .int .i64 (k : Int), .bool true, .pointer (some ⟨fb, fo + k, none⟩), .func (Fn.func p.g) #[] p.lb, .func (Fn.func p.g) #[] p.lb, sgV x, u14, u15, u16, u17, u18], defers := [] }) ?hax ?assign ?body ?done ?stop
  case kr =>
   intro o o'
   exact ((Below.refl B wr).alloc (by omega) _).alloc (by simp; omega) _
  case kb =>
   intro u lq o o' hl _ _
   exact ⟨rfl, rfl, rfl, by simp, fun k hk => World.putObj_heap_other (fun e => by omega)⟩
  case rp =>
   rintro T q x u lq o o' hl hc ⟨h1, h2, h3, h4⟩
   exact ⟨h1, cz_rd h2 (Cz.put o' hl hc), h3, fun p hp => ⟨(h4 p hp).1, by have := (h4 p hp).2; simpa using this⟩⟩
  case hi =>
   rintro s A A' row ⟨q1, q2, q3, q4, q5⟩ hg hr
   refine ⟨HJ.out _ A A' row q1 hg (fun r e => ⟨Nat.le_trans hWr (hr r e).1, (hr r e).2⟩), q2.trans ⟨hg.os, hg.tape, hg.output, hg.size, fun j hj => hg.block j ?_ ?_⟩, cz_bz q3 (cz_grown hg (fun r e => (hr r e).2)), q4, fun D hD => ?_⟩
   ·have := q2.size; omega
   ·intro e; have := (hr j e.symm).1; omega
   ·rw [hg.block D (lt_of_block (q5 D hD)) (fun e => by have h9 := (hr D e.symm).1; have h8 := lt_of_block (HT.out.ds D hD).2; omega)]
    exact q5 D hD
  case hix =>
   rintro s A A' row ⟨q1, q5⟩ hg hr
   refine ⟨HJX.out _ A A' row q1 hg (fun r e => ⟨Nat.le_trans hWr (hr r e).1, (hr r e).2⟩), fun D hD => ?_⟩
   rw [hg.block D (lt_of_block (q5 D hD)) (fun e => by have h9 := (hr D e.symm).1; have h8 := lt_of_block (HT.out.ds D hD).2; omega)]
   exact q5 D hD
  case ho =>
   rintro s u ⟨q1, -⟩ j hj
   exact HLT.out _ _ q1 j hj
  case hax =>
   rintro T x a' _ A A' row ⟨Bx, h2, h3⟩ hg hr
   exact ⟨Bx, cz_bz h2 (cz_grown hg (fun r e => (hr r e).2)), h3⟩
  case assign =>
   rintro lq T q O1 x u K hTW hi9 ⟨r1, r2, r3, r4⟩ hK
   have hba : Below u.heap.size u (u.alloc (Obj.cells #[.int .i64 x.ct.v, .int .i64 x.ct.lo, .int .i64 x.ct.wd, .int .i64 x.ct.bw, .slice x.a x.ct.ws.length x.c] 73)) := blA _ _
   have hub : W.heap.size ≤ u.heap.size := hi9.2.1.size
   have hi8 : J (pre ++ q, O1) (u.alloc (Obj.cells #[.int .i64 x.ct.v, .int .i64 x.ct.lo, .int .i64 x.ct.wd, .int .i64 x.ct.bw, .slice x.a x.ct.ws.length x.c] 73)) ∧ Below B W (u.alloc (Obj.cells #[.int .i64 x.ct.v, .int .i64 x.ct.lo, .int .i64 x.ct.wd, .int .i64 x.ct.bw, .slice x.a x.ct.ws.length x.c] 73)) ∧ Bz (u.alloc (Obj.cells #[.int .i64 x.ct.v, .int .i64 x.ct.lo, .int .i64 x.ct.wd, .int .i64 x.ct.bw, .slice x.a x.ct.ws.length x.c] 73)) W.heap.size #[.func (.yield l) #[] #[]] 169 ∧ ¬ O1 W.heap.size ∧ ∀ D ∈ Ds, (u.alloc (Obj.cells #[.int .i64 x.ct.v, .int .i64 x.ct.lo, .int .i64 x.ct.wd, .int .i64 x.ct.bw, .slice x.a x.ct.ws.length x.c] 73)).heap[D]? = some (.deferred (some [])) := by
    obtain ⟨q1, q2, q3, q4, q5⟩ := hi9
    exact ⟨HJ.out.alloc _ q1, q2.trans (hba.mono (by omega)), q3.later hba, q4, fun D hD => (hba.block D (lt_of_block (q5 D hD))).trans (q5 D hD)⟩
   have HI8 := kide hi8
   clear hi9 hi8
   unfold sgV
   gi_wp2
   exact hK _ _ ((KeepsOthers.alloc _ _).from _) (hba.mono (by omega)) (Cz.below hba) HI8.out ⟨r1, r2.later hba, r3, fun p hp => ⟨(r4 p hp).1, Nat.lt_of_lt_of_le (r4 p hp).2 hba.size⟩⟩ ⟨u.heap.size, Bz.new u _ _, rfl⟩
  case body =>
   rintro lq q O1 x a' W0 W1 hlq ⟨j0, -, -, -, -⟩ hcz ⟨j1, b1, y1, no1, d1⟩ ⟨r1, r2, r3, r4⟩ ⟨Bx, hX, rfl⟩
   simp only [] at j0 j1 no1
   have hPP : (pre ++ q ++ [x]).map Sg.ct <+: ps.flatMap Pt.L := by
    rw [List.append_assoc, List.map_append, HT.out.ct]
    exact pt_pre HPK.out r1
   obtain ⟨fn, tmps, assign, bodyc, hy, hR⟩ := HOW.out (pre ++ q) O1 x W0 W1 j0 hcz j1 ⟨hPP, r2, r3, r4⟩
   have g0 := y1.cell 0
   have x0 := hX.cell 0
   have x1 := hX.cell 1
   have x2 := hX.cell 2
   have x3 := hX.cell 3
   have x4 := hX.cell 4
   simp at g0 x0 x1 x2 x3 x4
   have hyl := y1.lt
   have B1 := kide b1
   have Y1 := kide y1
   have NO1 := kide no1
   have D1 := kide d1
   clear j0 j1 b1 y1 no1 d1 r1 r2 r3 r4 hX hcz hPP
   unfold sgV at hy ⊢
   gi_wp2
   refine ⟨(fun h => by cases h), (round_deep hR).mono ?_⟩
   rintro e W3 (⟨rfl, hK3, hO3, hF3, O', hJ3, hI3⟩ | ⟨rfl, hF3, hJx3⟩)
   ·gi_wp2
    refine ⟨keeps_low hF3 hWr, hK3, hO3, O', ⟨by rw [← List.append_assoc]; exact hJ3, B1.out.trans hK3, hO3.2 _ _ Y1.out rfl NO1.out, fun h9 => ?_, fun D hD => hF3.same D _ (HT.out.ds D hD).1 (D1.out D hD) rfl⟩, hI3⟩
    rcases hI3 _ h9 with h9 | h9
    ·exact NO1.out h9
    ·omega
   ·gi_wp2
    exact ⟨keeps_low hF3 hWr, by rw [← List.append_assoc]; exact hJx3, fun D hD => hF3.same D _ (HT.out.ds D hD).1 (D1.out D hD) rfl⟩
  case done =>
   rintro D xs O1 u hD hS ⟨j1, b1, y1, no1, d1⟩ hdf
   have NX : Hid (Tn l J B W ((ps.take (k + 1)).flatMap Pt.L) (pre ++ xs) O1 (D :: Ds) u) := by
    refine ⟨j1, by rw [List.map_append, HT.out.ct, hS, pt_next HPK.out], b1, y1, no1, List.nodup_cons.2 ⟨fun h9 => ?_, HT.out.nd⟩, fun E hE => ?_⟩
    ·have := lt_of_block (HT.out.ds D h9).2
     omega
    ·rcases List.mem_cons.1 hE with rfl | hE
     ·exact ⟨by omega, hdf⟩
     ·exact ⟨(HT.out.ds E hE).1, d1 E hE⟩
   clear j1 b1 y1 no1 d1 hdf hS
   gi_wp2
   refine ⟨⟨k + 1, D :: Ds, pre ++ xs, O1, _, _, _, _, _, _, _, _, _, _, _, _, _, by omega, rfl, NX.out⟩, ?_⟩
   simp [intOf]
   omega
  case stop =>
   rintro D q u hD hSp ⟨jx, d1⟩ hdf
   have hPP : (pre ++ q).map Sg.ct <+: ps.flatMap Pt.L := by
    rw [List.map_append, HT.out.ct]
    exact pt_pre HPK.out hSp
   gi_wp2
   refine leaves_all (fun u => Jx (pre ++ q) u) W.heap.size (fun u D hD hd hq => HJX.out.putObj _ hq hD hd rfl) (fun u hq => ⟨_, results_none rfl _ _ _, ⟨_, rfl⟩, .inr ⟨_, hPP, hq⟩⟩) (D :: Ds) u (List.nodup_cons.2 ⟨fun h9 => ?_, HT.out.nd⟩) (fun E hE => ?_) jx
   ·have := lt_of_block (HT.out.ds D h9).2
    omega
   ·rcases List.mem_cons.1 hE with rfl | hE
    ·exact ⟨by omega, hdf⟩
    ·exact ⟨(HT.out.ds E hE).1, d1 E hE⟩
 ·obtain rfl : k = N := by omega
  have hall : pre.map Sg.ct = ps.flatMap Pt.L := by rw [hT.ct, List.take_of_length_le (by rw [HN.out]; exact Nat.le_refl _)]
  have HT := kide hT
  clear hT
  gi_wp2
  exact leaves_all (fun u => J (pre, O) u) W.heap.size (fun u D hD hd hq => HJ.out.putObj _ hq hD hd rfl) (fun u hq => ⟨_, results_none rfl _ _ _, ⟨_, rfl⟩, .inl ⟨_, _, hall, hq⟩⟩) Ds wr HT.out.nd HT.out.ds HT.out.j
open Go.RowKit Go.Shelf
attribute [local go_sem] Oper.semAt_some
set_option maxHeartbeats 400000 in
theorem again_any (m : Int) (x : Sg) (w : World) :
  Calls Tryz.prog 89 #[.int .i64 m, sgV x] w fun e w' => e = .returned (.func (.func 114) #[] #[.pointer (some ⟨w.heap.size, 0, none⟩), .pointer (some ⟨w.heap.size + 1, 0, none⟩)]) ∧
   w' = (w.alloc (Obj.cells #[.int .i64 m] 2)).alloc (Obj.cells #[.int .i64 x.ct.v, .int .i64 x.ct.lo, .int .i64 x.ct.wd, .int .i64 x.ct.bw, .slice x.a x.ct.ws.length x.c] 73) := by
 unfold sgV
 go_enter Tryz.func89, Tryz.ntmps89
 go_wp2_with fail
 go_ret
 exact ⟨rfl, rfl⟩
set_option maxHeartbeats 2000000 in
set_option maxRecDepth 100000 in
theorem again_seq (n : Nat) (B : Nat) (bt bs m : Nat) (x : Sg) (w : World) (hB : B ≤ w.heap.size) (hm : m ≤ 4096) (hx : AtS B w x)
  (h1 : Bz w bt #[.int .i64 (m : Int)] 2) (l1 : bt < B) (h2 : Bz w bs #[.int .i64 x.ct.v, .int .i64 x.ct.lo, .int .i64 x.ct.wd, .int .i64 x.ct.bw, .slice x.a x.ct.ws.length x.c] 73) (l2 : bs < B) :
  SeqS n 114 #[.pointer (some ⟨bt, 0, none⟩), .pointer (some ⟨bs, 0, none⟩)] (List.replicate m x.ct) B w := by
 intro l J Jx O0 W hbW hJ hJx hlt hOw h0
 refine callsIn_of_wp Tryz.func114 rfl trivial ?_ rfl
 simp only [Tryz.ntmps114, List.size_toArray, List.length_cons, List.length_nil, Nat.reduceAdd, Nat.reduceSub, Array.replicate_succ, Array.replicate_zero, List.push_toArray, List.append_toArray, List.nil_append, List.cons_append]
 have c1 := (hbW.cell (p := ⟨bt, 0, none⟩) l1).trans (h1.cell 0)
 simp at c1
 have HX := kide hx
 have H2 := kide h2
 have HJ := kide hJ
 have HOW := kide hOw
 have HBW := kide hbW
 clear hx h1 h2 hJ hOw hbW hJx hlt
 gi_wp2
 gi_loopw [5] (fun i wr => ∃ (k : Nat) (pre : List Sg) (O : Nat → Prop), k ≤ m ∧ i = .int .i64 (k : Int) ∧ pre.map Sg.ct = List.replicate k x.ct ∧ J (pre, O) wr ∧ Below B W wr) (fun i _ => m - (intOf i).toNat)
 case atStart => exact ⟨0, [], O0, Nat.zero_le _, rfl, by simp, h0, Below.refl _ _⟩
 case round =>
  obtain ⟨k, pre, O, hk, rfl, hpre, hJp, hBr⟩ := hrel
  have HPR := kide hpre
  have HJP := kide hJp
  have HBR := kide hBr
  clear hpre hJp hBr
  by_cases hlt : k < m
  ·have hB9 := HBW.out.trans HBR.out
   have p0 := (hB9.cell (p := ⟨bs, 0, none⟩) l2).trans (H2.out.cell 0)
   have p1 := (hB9.cell (p := ⟨bs, 1, none⟩) l2).trans (H2.out.cell 1)
   have p2 := (hB9.cell (p := ⟨bs, 2, none⟩) l2).trans (H2.out.cell 2)
   have p3 := (hB9.cell (p := ⟨bs, 3, none⟩) l2).trans (H2.out.cell 3)
   have p4 := (hB9.cell (p := ⟨bs, 4, none⟩) l2).trans (H2.out.cell 4)
   simp at p0 p1 p2 p3 p4
   have hkN : (k : Int) < (m : Int) := by omega
   have hkw : IntKind.i64.wrap ((k : Int) + 1) = (k : Int) + 1 := by rw [IntKind.wrap_i64]; omega
   have hNX : (pre ++ [x]).map Sg.ct = List.replicate (k + 1) x.ct := by
    rw [List.map_append, HPR.out, List.replicate_succ']
    rfl
   have hPP : (pre ++ [x]).map Sg.ct <+: List.replicate m x.ct := by
    rw [hNX]
    refine ⟨List.replicate (m - (k + 1)) x.ct, ?_⟩
    rw [List.replicate_append_replicate]
    congr 1
    omega
   obtain ⟨fn, tmps, assign, body, hy, hR⟩ := HOW.out pre O x wr wr HJP.out (Cz.refl wr) HJP.out ⟨hPP, rd_low HX.out.rd hB9 HX.out.pl, HX.out.no, fun q hq => ⟨.inl (HX.out.pl q hq), by have h9 := HX.out.pl q hq; have := hB9.size; omega⟩⟩
   have HPP := kide hPP
   have HNX := kide hNX
   clear hB9 hPP hNX
   unfold sgV at hy
   gi_wp2
   refine ⟨(fun h => by cases h), hR.mono ?_⟩
   rintro e W3 (⟨rfl, hK3, -, -, O', hJ3, -⟩ | ⟨rfl, -, hJx3⟩)
   ·gi_wp2
    go_roundw
    case rel => exact ⟨k + 1, pre ++ [x], O', by omega, rfl, HNX.out, hJ3, HBR.out.trans hK3⟩
    case measure => simp only [intOf]; omega
   ·gi_wp2
    refine bodyPost_ret (results_none rfl _ _ _) rfl ?_
    exact ⟨⟨_, rfl⟩, .inr ⟨_, HPP.out, hJx3⟩⟩
  ·obtain rfl : k = m := by omega
   gi_wp2
   go_end0
   exact ⟨⟨_, rfl⟩, .inl ⟨pre, O, HPR.out, HJP.out⟩⟩
def okI (p : Ib) : Prop := in64 p.1 ∧ ((p.1 = -1 ∧ (p.2 = 0 ∨ p.2 = 1)) ∨ (0 ≤ p.1 ∧ 0 ≤ p.2 ∧ p.2 ≤ 4095))
theorem okI_lt {p : Ib} (h : okI p) : (p.1 < 0 → p.1 = -1 ∧ (p.2 = 0 ∨ p.2 = 1)) ∧ (¬ p.1 < 0 → 0 ≤ p.1 ∧ 0 ≤ p.2 ∧ p.2 ≤ 4095) := by
 rcases h.2 with h | h
 ·exact ⟨fun _ => h, fun h9 => by omega⟩
 ·exact ⟨fun h9 => by omega, fun _ => h⟩
theorem runC_all : ∀ (t : List Ib), ∀ q ∈ t.take (runC t), q.1 < 0
 | [], q, h => by simp at h
 | p :: t, q, h => by
  unfold runC at h
  split at h
  ·rename_i hp
   rw [List.take_succ_cons] at h
   rcases List.mem_cons.1 h with rfl | h
   ·exact hp
   ·exact runC_all t q h
  ·simp at h
theorem runV_run : ∀ (t : List Ib) (p : Ib), (p :: t).take (runV p t + 1) = runL p.1 p.2 (runV p t + 1)
 | [], p => by simp [runV, runL]
 | q :: t, p => by
  unfold runV
  split
  ·rename_i h
   rw [List.take_succ_cons, runV_run t q, h.1, h.2, runL_succ p.1 p.2]
  ·simp [runL]
theorem segC_P {c : List Ib} (h : ∀ p ∈ c, p.1 = -1 ∧ (p.2 = 0 ∨ p.2 = 1)) : segPs (segC c) c.length = c := by
 rw [segPs_cst rfl]
 apply List.ext_getElem?
 intro i
 by_cases hi : i < c.length
 ·rw [List.getElem?_map, List.getElem?_range hi, Option.map_some, List.getElem?_eq_getElem hi]
  have hp := h c[i] (List.getElem_mem hi)
  unfold segC
  simp only []
  rw [tb_pack _ (fun x hx => by
   obtain ⟨q, hq, rfl⟩ := List.mem_map.1 hx
   have := h q hq
   omega)]
  have e : (c.map fun p => p.2.toNat).getD i 0 = (c[i]).2.toNat := by simp [List.getD, hi]
  rw [e]
  congr 1
  refine Prod.ext hp.1.symm ?_
  simp only []
  rcases hp.2 with h0 | h0 <;> simp [h0]
 ·rw [List.getElem?_eq_none (by simp; omega), List.getElem?_eq_none (by omega)]
theorem segC_ok {c : List Ib} (h : ∀ p ∈ c, p.1 = -1 ∧ (p.2 = 0 ∨ p.2 = 1)) (h1 : 1 ≤ c.length) (h2 : c.length ≤ 4096) : okS (segC c) := by
 have := pack_right (c.map fun p => p.2.toNat) (fun x hx => by
   obtain ⟨q, hq, rfl⟩ := List.mem_map.1 hx
   have := h q hq
   omega) (by simpa using h1) (by simpa using h2)
 rw [List.length_map] at this
 exact ⟨by unfold segC; simp only []; omega, by unfold segC; simp only []; omega, fun y hy => pack_lt _ y hy, .inl ⟨rfl, rfl, rfl, this⟩⟩
theorem formB_P : ∀ (n : Nat) (l : List Ib), l.length ≤ n → l.length ≤ 4096 → (∀ p ∈ l, okI p) → formP (formB l) = l ∧ ∀ s ∈ formB l, okS s ∧ 0 ≤ s.lo ∧ s.lo + s.wd ≤ 4096
 | 0, l, h, _, _ => by
  have : l = [] := List.eq_nil_of_length_eq_zero (by omega)
  subst this
  rw [formB_nil]
  exact ⟨rfl, by simp⟩
 | n + 1, [], _, _, _ => by rw [formB_nil]; exact ⟨rfl, by simp⟩
 | n + 1, p :: t, h, h2, hp => by
  have hlen : (p :: t).length = t.length + 1 := rfl
  rw [formB_cons]
  split
  ·rename_i hv
   have hl := runC_le t
   have ih := formB_P n (t.drop (runC t)) (by rw [List.length_drop]; omega) (by rw [List.length_drop]; omega) (fun q hq => hp q (List.mem_cons_of_mem _ (List.mem_of_mem_drop hq)))
   have hc : ∀ q ∈ (p :: t).take (runC t + 1), q.1 = -1 ∧ (q.2 = 0 ∨ q.2 = 1) := fun q hq => by
    refine (okI_lt (hp q (List.mem_of_mem_take hq))).1 ?_
    rw [List.take_succ_cons] at hq
    rcases List.mem_cons.1 hq with rfl | hq
    ·exact hv
    ·exact runC_all t q hq
   have hcl : ((p :: t).take (runC t + 1)).length = runC t + 1 := by rw [List.length_take]; omega
   refine ⟨?_, fun s hs => ?_⟩
   ·rw [formP_cons, ih.1, show (segC ((p :: t).take (runC t + 1))).wd.toNat = ((p :: t).take (runC t + 1)).length from rfl, segC_P hc, show t.drop (runC t) = (p :: t).drop (runC t + 1) from rfl, List.take_append_drop]
   ·rcases List.mem_cons.1 hs with rfl | hs
    ·refine ⟨segC_ok hc (by omega) (by omega), ?_⟩
     unfold segC
     simp only []
     omega
    ·exact ih.2 s hs
  ·rename_i hv
   have hl := runV_le t p
   have ih := formB_P n (t.drop (runV p t)) (by rw [List.length_drop]; omega) (by rw [List.length_drop]; omega) (fun q hq => hp q (List.mem_cons_of_mem _ (List.mem_of_mem_drop hq)))
   have hp0 := (okI_lt (hp p (by simp))).2 hv
   refine ⟨?_, fun s hs => ?_⟩
   ·rw [formP_cons, ih.1, segPs_var (s := segV p (runV p t + 1)) hp0.1]
    unfold segV
    simp only [Int.toNat_natCast]
    rw [← runV_run t p, show t.drop (runV p t) = (p :: t).drop (runV p t + 1) from rfl, List.take_append_drop]
   ·rcases List.mem_cons.1 hs with rfl | hs
    ·have hlast : (p.1, p.2 + (runV p t : Int)) ∈ p :: t := by
      have h9 : (p.1, p.2 + (runV p t : Int)) ∈ runL p.1 p.2 (runV p t + 1) := List.mem_map.2 ⟨runV p t, List.mem_range.2 (by omega), rfl⟩
      rw [← runV_run t p] at h9
      exact List.mem_of_mem_take h9
     have h9 := (okI_lt (hp _ hlast)).2 (by simp only []; omega)
     simp only [] at h9
     unfold segV
     refine ⟨⟨by simp only []; omega, by simp only []; omega, by simp, .inr ⟨hp0.1, rfl, rfl⟩⟩, hp0.2.1, by simp only []; omega⟩
    ·exact ih.2 s hs

open Go.RowKit Go.Shelf
attribute [local go_sem] Oper.semAt_some
def bwL (ks : List Int) : List (Int × Int) := (List.range ks.length).map fun j => (((ks.length - 1 - j : Nat) : Int), ks.getD (ks.length - 1 - j) 0)
theorem bwL_len (ks : List Int) : (bwL ks).length = ks.length := by simp [bwL]
theorem bwL_at (ks : List Int) {k : Nat} (h : k < ks.length) : (bwL ks)[k]? = some (((ks.length - 1 - k : Nat) : Int), ks.getD (ks.length - 1 - k) 0) := by
 unfold bwL
 rw [List.getElem?_map, List.getElem?_range h]
 rfl
theorem bwL_snd (ks : List Int) : (bwL ks).map Prod.snd = ks.reverse := by
 apply List.ext_getElem?
 intro i
 by_cases h : i < ks.length
 ·rw [List.getElem?_map, bwL_at ks h, List.getElem?_reverse h]
  have : ks.length - 1 - i < ks.length := by omega
  simp [List.getD, this]
 ·rw [List.getElem?_eq_none (by simp [bwL_len]; omega), List.getElem?_eq_none (by simp; omega)]
def RdyI (ks : List Int) (_ : Nat) (pre : List (Int × Int)) (x : Int × Int) (_ : World) : Prop := pre ++ [x] <+: bwL ks
def KpI (B bf : Nat) (W W' : World) : Prop := Below B W W' ∧ W'.heap[bf]? = W.heap[bf]?
theorem KpI.trans {B bf : Nat} {X Y Z : World} (h : KpI B bf X Y) (k : KpI B bf Y Z) : KpI B bf X Z := ⟨h.1.trans k.1, k.2.trans h.2⟩
theorem KpI.refl (B bf : Nat) (X : World) : KpI B bf X X := ⟨Below.refl _ _, rfl⟩
abbrev SeqI (n : Nat) (g : Nat) (lb : Array Value) (ks : List Int) (B bf : Nat) (w : World) : Prop :=
 SeqW Fence.wide n Tryz.prog g lb (fun x : Int × Int => #[.int .i64 x.1, .int .i64 x.2]) (KpI B bf) (RdyI ks) (fun xs => xs = bwL ks) (fun pre => pre <+: bwL ks) w
set_option maxHeartbeats 400000 in
theorem backI_any (va : Option Addr) (N vc : Nat) (w : World) :
  Calls Tryz.prog 115 #[.slice va N vc] w fun e w' => e = .returned (.func (.func 123) #[] #[.pointer (some ⟨w.heap.size, 0, none⟩)]) ∧ w' = w.alloc (Obj.cells #[.slice va N vc] 60) := by
 go_enter Tryz.func115, Tryz.ntmps115
 go_wp2_with fail
 go_ret
 exact ⟨rfl, rfl⟩
set_option maxHeartbeats 2000000 in
set_option maxRecDepth 100000 in
theorem backI_seq (n : Nat) (B : Nat) (bf fc N : Nat) (ka : Option Addr) (ks : List Int) (w : World) (hB : B ≤ w.heap.size) (hN : ks.length = N) (hN2 : N ≤ 1048576) (hk : RdI w ka ks) (hkl : ∀ q, ka = some q → q.block < B)
  (h1 : Bz w bf #[.slice ka N fc] 60) :
  SeqI n 123 #[.pointer (some ⟨bf, 0, none⟩)] ks B bf w := by
 intro l J Jx O0 W hbW hJ hJx hlt hOw h0
 refine callsIn_of_wp Tryz.func123 rfl trivial ?_ rfl
 simp only [Tryz.ntmps123, List.size_toArray, List.length_cons, List.length_nil, Nat.reduceAdd, Nat.reduceSub, Array.replicate_succ, Array.replicate_zero, List.push_toArray, List.append_toArray, List.nil_append, List.cons_append]
 have h1W : Bz W bf #[.slice ka N fc] 60 := hbW.2.trans h1
 have c1 := h1W.cell 0
 simp at c1
 have hw1 : IntKind.i64.wrap ((N : Int) - 1) = (N : Int) - 1 := by rw [IntKind.wrap_i64]; omega
 have HK := kide hk
 have HKL := kide hkl
 have H1 := kide h1
 have HN := kide hN
 have HJ := kide hJ
 have HOW := kide hOw
 have HBW := kide hbW
 have HN2 := kide hN2
 clear hk hkl h1 h1W hN hJ hOw hbW hJx hlt hN2
 gi_wp2
 gi_loopw [3] (fun i wr => ∃ (k : Nat) (O : Nat → Prop), k ≤ N ∧ i = .int .i64 ((N : Int) - 1 - (k : Int)) ∧ J ((bwL ks).take k, O) wr ∧ KpI B bf W wr) (fun i _ => (intOf i + 1).toNat)
 case atStart => exact ⟨0, O0, Nat.zero_le _, by simp, by simpa using h0, KpI.refl _ _ _⟩
 case round =>
  obtain ⟨k, O, hk, rfl, hJp, hBr⟩ := hrel
  have HJP := kide hJp
  have HBR := kide hBr
  clear hJp hBr
  have hB9 := HBW.out.trans HBR.out
  have hc1 := (show Bz wr bf #[.slice ka N fc] 60 from hB9.2.trans H1.out).cell 0
  simp at hc1
  by_cases hlt : k < N
  ·obtain ⟨q, hq⟩ : ∃ q : Nat, N - 1 - k = q := ⟨_, rfl⟩
   have eq : (N : Int) - 1 - (k : Int) = (q : Int) := by omega
   rw [eq]
   have hqw : IntKind.i64.wrap ((q : Int) - 1) = (q : Int) - 1 := by rw [IntKind.wrap_i64]; have := HN2.out; omega
   have q0 : (q : Int) ≥ 0 := by omega
   have q1 : (q : Int) < (N : Int) := by omega
   have hxa := bwL_at ks (k := k) (by rw [HN.out]; exact hlt)
   rw [HN.out, hq] at hxa
   obtain ⟨kb, ko, rfl, hcell⟩ : ∃ kb ko, ka = some ⟨kb, ko, none⟩ ∧ wr.cell? ⟨kb, ko + q, none⟩ = some (.int .i64 (ks.getD q 0)) := by
    rcases HK.out.2.2 with h9 | ⟨b, o, e, hc⟩
    ·have := HN.out; rw [h9] at this; simp at this; omega
    ·refine ⟨b, o, e, ?_⟩
     rw [hB9.1.cell (p := ⟨b, o + q, none⟩) (HKL.out ⟨b, o, none⟩ e)]
     exact hc q (by rw [HN.out]; omega)
   generalize ks.getD q 0 = y at *
   have hPP : (bwL ks).take k ++ [((q : Int), y)] <+: bwL ks := by
    have h9 := List.take_add_one (l := bwL ks) (i := k)
    rw [hxa, Option.toList_some] at h9
    rw [← h9]
    exact List.take_prefix _ _
   have HTK : Hid ((bwL ks).take (k + 1) = (bwL ks).take k ++ [((q : Int), y)]) := by
    show _ = _
    rw [List.take_add_one, hxa, Option.toList_some]
   obtain ⟨fn, tmps, assign, body, hy, hR⟩ := HOW.out _ O ((q : Int), y) wr wr HJP.out (Cz.refl wr) HJP.out hPP
   dsimp only at hy
   have HPP := kide hPP
   clear hB9 hPP hxa hq
   gi_wp2
   refine ⟨(fun h => by cases h), hR.mono ?_⟩
   rintro e W3 (⟨rfl, hK3, -, -, O', hJ3, -⟩ | ⟨rfl, -, hJx3⟩)
   ·gi_wp2
    go_roundw
    case rel => exact ⟨k + 1, O', by omega, by congr 1; push_cast; omega, by rw [HTK.out]; exact hJ3, HBR.out.trans hK3⟩
    case measure => simp only [intOf]; omega
   ·gi_wp2
    refine bodyPost_ret (results_none rfl _ _ _) rfl ?_
    exact ⟨⟨_, rfl⟩, .inr ⟨_, HPP.out, hJx3⟩⟩
  ·obtain rfl : k = N := by omega
   have eq : (k : Int) - 1 - (k : Int) = -1 := by omega
   rw [eq]
   clear hB9
   gi_wp2
   go_end0
   refine ⟨⟨_, rfl⟩, .inl ⟨_, O, ?_, HJP.out⟩⟩
   rw [List.take_of_length_le (by rw [bwL_len, HN.out]; exact Nat.le_refl _)]
end Go.Proofs.YtnpjgoklpaigjaaGreatDoor
