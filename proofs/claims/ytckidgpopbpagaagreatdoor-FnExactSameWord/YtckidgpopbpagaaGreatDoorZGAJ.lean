/- Several texts in one. -/
import Derived.Test.YtckidgpopbpagaaGreatDoorRFW
import Derived.Test.YtckidgpopbpagaaGreatDoorZGAI
import Derived.Test.YtckidgpopbpagaaGreatDoorZGAI
import Derived.Test.YtckidgpopbpagaaGreatDoorZGAF
import Derived.Test.YtckidgpopbpagaaGreatDoorZGAG
import Derived.Handy
import Derived.Test.YtckidgpopbpagaaGreatDoorRXI

/- What is gathered out of an iterator's segments: what holds between two rounds. -/
namespace Go.Proofs.YtckidgpopbpagaaGreatDoor
set_option linter.unusedVariables false
set_option linter.unusedSimpArgs false
open Go.RowKit

/-- A segment as it is handed over. -/
def sgV (x : Sg) : Value := .agg #[.int .i64 x.ct.v, .int .i64 x.ct.lo, .int .i64 x.ct.wd, .int .i64 x.ct.bw, .slice x.a x.ct.ws.length x.c]
/-- It is ready: those that came are as told, and its words can be read; they lie ahead of B, or in a block laid since. -/
def RdyS (B : Nat) (L : List Sc) (T : Nat) (pre : List Sg) (x : Sg) (W : World) : Prop := (pre ++ [x]).map Sg.ct <+: L ∧ Rd W x.a x.ct.ws ∧ (x.a = none → x.c = 0) ∧ ∀ p, x.a = some p → (p.block < B ∨ T ≤ p.block) ∧ p.block < W.heap.size
abbrev SeqS (n : Nat) (g : Nat) (lb : Array Value) (L : List Sc) (B : Nat) (w : World) : Prop :=
  SeqW Fence.wide n Tryz.prog g lb (fun x => #[sgV x]) (Below B) (RdyS B L) (fun xs => xs.map Sg.ct = L) (fun pre => pre.map Sg.ct <+: L) w

theorem cz_bz {W W' : World} {b : Nat} {cs : Array Value} {t : TypeId} (h : Bz W b cs t) (hc : Cz W W') : Bz W' b cs t := hc.2 b _ h rfl
theorem cz_rd {W W' : World} {a : Option Addr} {xs : List Nat} (h : Rd W a xs) (hc : Cz W W') : Rd W' a xs := by
  obtain ⟨h1, h2, h3⟩ := h
  refine ⟨h1, h2, ?_⟩
  rcases h3 with h3 | ⟨b, o, rfl, hcell⟩
  · exact .inl h3
  · refine .inr ⟨b, o, rfl, fun i hi => ?_⟩
    have h9 := hcell i hi
    have hl := block_lt_of_cell h9
    have hb : W'.heap[b]? = W.heap[b]? := by
      obtain ⟨ob, hob⟩ : ∃ ob, W.heap[b]? = some ob := ⟨_, Array.getElem?_eq_getElem hl⟩
      rw [hob]
      refine hc.2 b ob hob ?_
      cases ob with
      | cells cs t fr => rfl
      | _ => simp [World.cell?, hob] at h9
    rw [World.cell?_of_block (a := ⟨b, o + i, none⟩) hb]
    exact h9
theorem cz_own {W W' : World} {B n : Nat} {e : TypeId} {s : Nat} {v : Value} {xs : List Value} (h : W.ownsRow B e s v n xs) (hc : Cz W W') : W'.ownsRow B e s v n xs := by
  obtain ⟨h1, h2⟩ := h
  refine ⟨h1, ?_⟩
  rcases h2 with h2 | ⟨g, cap, cur, rfl, hg, hh, r⟩
  · exact .inl h2
  · exact .inr ⟨g, cap, cur, rfl, hg, hc.2 g _ hh rfl, r⟩
theorem cz_grown {W W' : World} {row : Option Nat} (hg : W.grownBy W' row) (hr : ∀ r, row = some r → ∃ o : Obj, W.heap[r]? = some o ∧ o.isCells = false) : Cz W W' :=
  ⟨hg.size, fun k o hk hc => (hg.block k (Array.getElem?_eq_some_iff.1 hk).1 (fun e => by
    obtain ⟨o', ho', hn⟩ := hr k e.symm
    rw [hk] at ho'
    cases ho'
    rw [hc] at hn
    cases hn)).trans hk⟩

theorem mid_get {F : List Sc} {a s : Sc} {i : Nat} (h : (F ++ [a])[i]? = some s) : (i < F.length ∧ F[i]? = some s) ∨ (i = F.length ∧ s = a) := by
  rcases Nat.lt_trichotomy i F.length with h1 | h1 | h1
  · rw [List.getElem?_append_left h1] at h
    exact .inl ⟨h1, h⟩
  · subst h1
    simp at h
    exact .inr ⟨rfl, h.symm⟩
  · rw [List.getElem?_eq_none (by simp; omega)] at h
    cases h
theorem Nf.nil : Nf [] := ⟨by simp, by simp⟩
theorem Nf.one {b : Sc} (hb : okS b) : Nf [b] := ⟨by simpa using hb, fun i s t h1 h2 => by simp at h2⟩
theorem Nf.snoc {F : List Sc} {a b : Sc} (h : Nf (F ++ [a])) (hb : okS b) (hn : oneB a b = false) : Nf (F ++ [a] ++ [b]) := by
  refine ⟨fun s hs => ?_, fun i s t h1 h2 => ?_⟩
  · rcases List.mem_append.1 hs with hs | hs
    · exact h.ok s hs
    · rw [List.mem_singleton.1 hs]; exact hb
  · rcases mid_get h2 with ⟨h3, h4⟩ | ⟨h3, rfl⟩
    · rcases mid_get h1 with ⟨h5, h6⟩ | ⟨h5, h6⟩
      · exact h.ap i s t h6 h4
      · omega
    · rcases mid_get h1 with ⟨h5, h6⟩ | ⟨h5, h6⟩
      · have : i = F.length := by simp at h3; omega
        subst this
        simp at h6
        subst h6
        exact hn
      · omega
theorem Nf.last {F : List Sc} {a b : Sc} (h : Nf (F ++ [a])) (hb : okS (oneS a b)) : Nf (F ++ [oneS a b]) := by
  refine ⟨fun s hs => ?_, fun i s t h1 h2 => ?_⟩
  · rcases List.mem_append.1 hs with hs | hs
    · exact h.ok s (by simp [hs])
    · rw [List.mem_singleton.1 hs]; exact hb
  · rcases mid_get h2 with ⟨h3, h4⟩ | ⟨h3, rfl⟩
    · rcases mid_get h1 with ⟨h5, h6⟩ | ⟨h5, h6⟩
      · exact h.ap i s t (by rw [List.getElem?_append_left h5]; exact h6) (by rw [List.getElem?_append_left h3]; exact h4)
      · omega
    · rcases mid_get h1 with ⟨h5, h6⟩ | ⟨h5, h6⟩
      · have h9 := h.ap i s a (by rw [List.getElem?_append_left h5]; exact h6) (by rw [h3]; simp)
        rcases oneS_on (a := a) (b := b) (c := s) with h8 | h8
        · rw [h8]; exact h9
        · rw [h8.2]; exact h9
      · omega
theorem formP_one {F : List Sc} {a b : Sc} (ha : okS a) (hb : okS b) (ho : oneB a b = true) : formP (F ++ [oneS a b]) = formP (F ++ [a]) ++ formP [b] := by
  rw [formP_app, formP_app]
  have h1 : formP [oneS a b] = segPs (oneS a b) (oneS a b).wd.toNat := by simp [formP]
  have h2 : formP [a] = segPs a a.wd.toNat := by simp [formP]
  have h3 : formP [b] = segPs b b.wd.toNat := by simp [formP]
  rw [h1, h2, h3, oneS_P ha hb ho, List.append_assoc]
/-- The last one and the next are no wider than all. -/
theorem two_wide {L : List Sc} {F pre : List Sc} {a b : Sc} (hL : ∀ s ∈ L, okS s) (hs : sumS L ≤ 4096) (hF : ∀ s ∈ F ++ [a], okS s) (hp : formP (F ++ [a]) = formP pre) (hpre : pre ++ [b] <+: L) : a.wd + b.wd ≤ 4096 := by
  obtain ⟨r, hr⟩ := hpre
  have hb : okS b := hL b (by rw [← hr]; simp)
  have h1 := formP_len (F ++ [a]) (fun s hs => by have := (hF s hs).1; omega)
  have h2 := formP_len L (fun s hs => by have := (hL s hs).1; omega)
  have h3 : formP L = formP pre ++ formP [b] ++ formP r := by rw [← hr, formP_app, formP_app]
  have h4 : (formP [b]).length = b.wd.toNat := by simp [formP, segPs_len]
  rw [h3, ← hp] at h2
  simp only [List.length_append] at h2
  rw [sumS_append] at h1
  have h5 : sumS [a] = a.wd := by simp [sumS]
  have h6 : 0 ≤ sumS F := by
    have := formP_len F (fun s hs => by have := (hF s (by simp [hs])).1; omega)
    omega
  have := hb.1
  omega

/-- What holds between two rounds: the boxes, the segments so far, and whether the last one's words are of gather's making. -/
structure Gi (w : World) (b : Nat) (L : List Sc) (pre : List Sg) (ow : Bool) (v : Value) (l : List Sg) (W : World) : Prop where
  r0 : Bz W b #[.slice none 0 0] 42
  r1 : Bz W (b + 1) #[.bool false] 4
  fx : Bz W (b + 1 + 1) #[v] 42
  ox : Bz W (b + 1 + 1 + 1) #[.bool ow] 4
  row : OS5 W b v l
  nf : Nf (l.map Sg.ct)
  bits : formP (l.map Sg.ct) = formP (pre.map Sg.ct)
  lo : ∀ x ∈ l, 0 ≤ x.ct.lo ∧ x.ct.lo ≤ 4096
  len : l.length ≤ 2000
  rd : ∀ x ∈ l, Rd W x.a x.ct.ws
  no : ∀ x ∈ l, x.a = none → x.c = 0
  pl : ∀ x ∈ l, ∀ p, x.a = some p → p.block < W.heap.size
  own : ow = true → ∃ (l' : List Sg) (x : Sg), l = l' ++ [x] ∧ OwW W b (.slice x.a x.ct.ws.length x.c) x.ct.ws ∧ ∀ y ∈ l', ∀ p q, x.a = some p → y.a = some q → p.block ≠ q.block
  ra : ∀ x ∈ l, ∀ p, x.a = some p → v.ownBlock ≠ some p.block
  pre : pre.map Sg.ct <+: L
  bel : Below b w W
theorem Gi.cz {w : World} {b : Nat} {L : List Sc} {pre : List Sg} {ow : Bool} {v : Value} {l : List Sg} {W W' : World} (h : Gi w b L pre ow v l W) (hc : Cz W W') (hb : Below b w W') : Gi w b L pre ow v l W' :=
  ⟨cz_bz h.r0 hc, cz_bz h.r1 hc, cz_bz h.fx hc, cz_bz h.ox hc, cz_own h.row hc, h.nf, h.bits, h.lo, h.len, fun x hx => cz_rd (h.rd x hx) hc, h.no, fun x hx p hp => Nat.lt_of_lt_of_le (h.pl x hx p hp) hc.1, fun e => by
    obtain ⟨l', x, h1, h2, h3⟩ := h.own e
    exact ⟨l', x, h1, cz_own h2 hc, h3⟩, h.ra, h.pre, hb⟩
theorem Gi.later {w : World} {b : Nat} {L : List Sc} {pre : List Sg} {ow : Bool} {v : Value} {l : List Sg} {W W' : World} (h : Gi w b L pre ow v l W) (hb : Below W.heap.size W W') (hbw : b ≤ W.heap.size) : Gi w b L pre ow v l W' :=
  h.cz (Cz.below hb) (h.bel.trans (hb.mono hbw))

end Go.Proofs.YtckidgpopbpagaaGreatDoor

/- The bits between two places of a form, segment by segment. -/
namespace Go.Proofs.YtckidgpopbpagaaGreatDoor
set_option linter.unusedVariables false
set_option linter.unusedSimpArgs false
open Go.RowKit

/-- So many bits of a segment, from its bit p on. -/
def cutS (s : Sc) (p m : Nat) : Sc := if (m : Int) = s.wd then s else if s.v = -1 then ⟨-1, 0, m, m, pack (((bitsTo s.ws s.bw.toNat).drop p).take m)⟩ else ⟨s.v, s.lo + p, m, 0, []⟩
/-- The segments that lie between two places. -/
def betS (lo en : Nat) : Nat → List Sc → List Sc
  | _, [] => []
  | f, s :: t => (if max f lo < min (f + s.wd.toNat) en then [cutS s (max f lo - f) (min (f + s.wd.toNat) en - max f lo)] else []) ++ betS lo en (f + s.wd.toNat) t

theorem cutS_wd (s : Sc) (p m : Nat) : (cutS s p m).wd = m := by
  unfold cutS
  split
  · rename_i h; exact h.symm
  · split <;> rfl
theorem range_drop_take {β : Type} (f : Nat → β) (N p m : Nat) (h : p + m ≤ N) : (((List.range N).map f).drop p).take m = (List.range m).map fun k => f (p + k) := by
  apply List.ext_getElem?
  intro i
  by_cases hi : i < m
  · rw [List.getElem?_take, if_pos hi, List.getElem?_drop]
    simp [hi, show p + i < N by omega]
  · rw [List.getElem?_eq_none (by simp; omega), List.getElem?_eq_none (by simp; omega)]
theorem tb_cut (ws : List Nat) (V p m k : Nat) (h : p + m ≤ V) (hk : k < m) : tb (pack (((bitsTo ws V).drop p).take m)) k = tb ws (p + k) := by
  rw [tb_pack _ (fun x hx => bitsTo_le ws V x (List.mem_of_mem_drop (List.mem_of_mem_take hx))), List.getD, List.getElem?_take, if_pos hk, List.getElem?_drop]
  have := bits_getD3 ws V (p + k) (by omega)
  simp only [List.getD] at this
  rw [this]
  cases tb ws (p + k) <;> rfl
theorem cut_len (ws : List Nat) (V p m : Nat) (h : p + m ≤ V) : (((bitsTo ws V).drop p).take m).length = m := by
  rw [List.length_take, List.length_drop, bitsTo_len]
  omega
theorem cutS_ok {s : Sc} {p m : Nat} (h : okS s) (hm : 1 ≤ m) (hp : (p : Int) + m ≤ s.wd) : okS (cutS s p m) := by
  have h1 := h.2.1
  unfold cutS
  split
  · exact h
  · split
    · rename_i e
      refine ⟨by simp only []; omega, by simp only []; omega, fun y hy => pack_lt _ y hy, .inl ⟨rfl, rfl, rfl, ?_⟩⟩
      have hb : s.bw = s.wd := by
        rcases h.2.2.2 with h9 | h9
        · exact h9.2.2.1
        · omega
      have h8 := cut_len s.ws s.bw.toNat p m (by omega)
      have := pack_right (((bitsTo s.ws s.bw.toNat).drop p).take m) (fun x hx => bitsTo_le _ _ x (List.mem_of_mem_drop (List.mem_of_mem_take hx))) (by omega) (by omega)
      rw [h8] at this
      exact this
    · rename_i e
      have hv : 0 ≤ s.v := by
        rcases h.2.2.2 with h9 | h9
        · exact absurd h9.1 e
        · exact h9.1
      exact ⟨by simp only []; omega, by simp only []; omega, by simp, .inr ⟨hv, rfl, rfl⟩⟩
theorem cutS_lo {s : Sc} {p m : Nat} (h : 0 ≤ s.lo ∧ s.lo + s.wd ≤ 4096) (hm : 1 ≤ m) (hp : (p : Int) + m ≤ s.wd) : 0 ≤ (cutS s p m).lo ∧ (cutS s p m).lo ≤ 4096 := by
  unfold cutS
  split
  · omega
  · split
    · simp
    · simp only []; omega
theorem cutS_P {s : Sc} {p m : Nat} (h : okS s) (hm : 1 ≤ m) (hp : (p : Int) + m ≤ s.wd) : segPs (cutS s p m) m = ((segPs s s.wd.toNat).drop p).take m := by
  have h1 := h.1
  unfold cutS
  split
  · rename_i e
    have e2 : p = 0 := by omega
    subst e2
    rw [List.drop_zero, ← e, Int.toNat_natCast, List.take_of_length_le (by rw [segPs_len]; omega)]
  · split
    · rename_i e
      have hb : s.bw = s.wd := by
        rcases h.2.2.2 with h9 | h9
        · exact h9.2.2.1
        · omega
      rw [segPs_cst rfl, segPs_cst e, range_drop_take _ _ _ _ (by omega)]
      refine List.map_congr_left fun k hk => ?_
      simp only []
      rw [tb_cut _ _ _ _ _ (by omega) (List.mem_range.1 hk)]
    · rename_i e
      have hv : 0 ≤ s.v := by
        rcases h.2.2.2 with h9 | h9
        · exact absurd h9.1 e
        · exact h9.1
      rw [segPs_var (s := ⟨s.v, s.lo + p, m, 0, []⟩) hv, segPs_var hv]
      unfold runL
      rw [range_drop_take _ _ _ _ (by omega)]
      refine List.map_congr_left fun k hk => ?_
      simp only []
      congr 1
      push_cast
      omega

theorem formP_length (l : List Sc) : (formP l).length = (l.map fun s => s.wd.toNat).sum := by
  unfold formP
  rw [List.length_flatMap]
  congr 1
  exact List.map_congr_left fun s _ => segPs_len s _
theorem betS_app (lo en : Nat) : ∀ (a b : List Sc) (f : Nat), betS lo en f (a ++ b) = betS lo en f a ++ betS lo en (f + (formP a).length) b
  | [], b, f => by simp [betS, formP_nil]
  | s :: t, b, f => by
    rw [List.cons_append, betS, betS, betS_app lo en t b, formP_cons, List.length_append, segPs_len, List.append_assoc, Nat.add_assoc]
theorem bet_in {f lo en wd : Nat} (h : max f lo < min (f + wd) en) : 1 ≤ min (f + wd) en - max f lo ∧ max f lo - f + (min (f + wd) en - max f lo) ≤ wd := by omega
theorem betS_mem (lo en : Nat) : ∀ (l : List Sc) (f : Nat) (x : Sc), x ∈ betS lo en f l → ∃ s ∈ l, ∃ p m, 1 ≤ m ∧ p + m ≤ s.wd.toNat ∧ x = cutS s p m
  | [], f, x, h => by simp [betS] at h
  | s :: t, f, x, h => by
    rw [betS] at h
    rcases List.mem_append.1 h with h | h
    · split at h
      · rename_i hc
        have := bet_in hc
        exact ⟨s, by simp, _, _, this.1, this.2, List.mem_singleton.1 h⟩
      · cases h
    · obtain ⟨s', hs', r⟩ := betS_mem lo en t _ x h
      exact ⟨s', List.mem_cons_of_mem _ hs', r⟩
theorem betS_P (lo en : Nat) : ∀ (l : List Sc) (f : Nat), (∀ s ∈ l, okS s) → formP (betS lo en f l) = ((formP l).take (en - f)).drop (lo - f)
  | [], f, _ => by simp [betS, formP_nil]
  | s :: t, f, h => by
    have hs := h s (by simp)
    have h1 := hs.1
    rw [betS, formP_app, betS_P lo en t _ (fun x hx => h x (by simp [hx])), formP_cons, List.take_append, segPs_len, List.drop_append]
    have e2 : ((formP t).take (en - f - s.wd.toNat)).drop (lo - f - ((segPs s s.wd.toNat).take (en - f)).length) = ((formP t).take (en - (f + s.wd.toNat))).drop (lo - (f + s.wd.toNat)) := by
      rw [List.length_take, segPs_len]
      by_cases e : s.wd.toNat ≤ en - f
      · rw [Nat.min_eq_right e, Nat.sub_sub, Nat.sub_sub]
      · rw [show en - f - s.wd.toNat = 0 by omega, show en - (f + s.wd.toNat) = 0 by omega]
        simp
    rw [e2]
    congr 1
    split
    · rename_i hc
      have hb := bet_in hc
      have h9 := cutS_P (p := max f lo - f) (m := min (f + s.wd.toNat) en - max f lo) hs hb.1 (by omega)
      have h8 : formP [cutS s (max f lo - f) (min (f + s.wd.toNat) en - max f lo)] = segPs (cutS s (max f lo - f) (min (f + s.wd.toNat) en - max f lo)) (min (f + s.wd.toNat) en - max f lo) := by
        simp only [formP, List.flatMap_cons, List.flatMap_nil, List.append_nil, cutS_wd, Int.toNat_natCast]
      rw [h8, h9, List.drop_take, show max f lo - f = lo - f by omega]
      by_cases e : f + s.wd.toNat ≤ en
      · rw [List.take_of_length_le (i := en - f - (lo - f)) (by rw [List.length_drop, segPs_len]; omega), List.take_of_length_le (i := min (f + s.wd.toNat) en - max f lo) (by rw [List.length_drop, segPs_len]; omega)]
      · congr 1
        omega
    · rename_i hc
      rw [formP_nil, List.drop_eq_nil_of_le]
      rw [List.length_take, segPs_len]
      omega
theorem betS_ok {lo en f : Nat} {l : List Sc} (h : ∀ s ∈ l, okS s ∧ 0 ≤ s.lo ∧ s.lo + s.wd ≤ 4096) : ∀ s ∈ betS lo en f l, okS s ∧ 0 ≤ s.lo ∧ s.lo ≤ 4096 := fun x hx => by
  obtain ⟨s, hs, p, m, h1, h2, rfl⟩ := betS_mem lo en l f x hx
  obtain ⟨h3, h4⟩ := h s hs
  have := h3.1
  exact ⟨cutS_ok h3 h1 (by omega), cutS_lo h4 h1 (by omega)⟩
theorem betS_sum {lo en f : Nat} {l : List Sc} (h : ∀ s ∈ l, okS s ∧ 0 ≤ s.lo ∧ s.lo + s.wd ≤ 4096) : sumS (betS lo en f l) ≤ sumS l := by
  have h1 := formP_len (betS lo en f l) (fun s hs => by have := (betS_ok h s hs).1.1; omega)
  have h2 := formP_len l (fun s hs => by have := (h s hs).1.1; omega)
  rw [betS_P lo en l f (fun s hs => (h s hs).1), List.length_drop, List.length_take] at h1
  omega
/-- One segment more. -/
theorem betS_snoc (lo en : Nat) (l : List Sc) {k : Nat} {s : Sc} (h : l[k]? = some s) : betS lo en 0 (l.take (k + 1)) = betS lo en 0 (l.take k) ++ (if max (formP (l.take k)).length lo < min ((formP (l.take k)).length + s.wd.toNat) en then [cutS s (max (formP (l.take k)).length lo - (formP (l.take k)).length) (min ((formP (l.take k)).length + s.wd.toNat) en - max (formP (l.take k)).length lo)] else []) := by
  rw [List.take_add_one, h, Option.toList_some, betS_app, Nat.zero_add, betS, betS, List.append_nil]
theorem betS_pre (lo en : Nat) (l : List Sc) (k : Nat) : betS lo en 0 (l.take k) <+: betS lo en 0 l := by
  have h9 := betS_app lo en (l.take k) (l.drop k) 0
  rw [List.take_append_drop] at h9
  exact ⟨_, h9.symm⟩
theorem sgOk_lo {ds : List Dc} {s : Sc} (hd : dclR ds = true) (h : sgOk ds s = true) : 0 ≤ s.lo ∧ s.lo + s.wd ≤ 4096 := by
  have h9 := sgOk_wdt hd h
  by_cases e : s.v = -1
  · obtain ⟨h1, h2, h3⟩ := sgOk_cst h e
    omega
  · obtain ⟨a, b, c, d, f⟩ := sgOk_vr h e
    have hw : (ds.getD s.v.toNat (.empty, 0)).2 ≤ 4096 := by
      have hl : s.v.toNat < ds.length := by omega
      have := dclR_wd hd (k := s.v.toNat) (List.getElem?_eq_getElem hl)
      simp [List.getD, hl]
      exact this.2
    omega
end Go.Proofs.YtckidgpopbpagaaGreatDoor

/- So many bits of a segment. -/

namespace Go.Proofs.YtckidgpopbpagaaGreatDoor
set_option linter.unusedVariables false
set_option linter.unusedSimpArgs false
open Go.RowKit

/-- What segPart tells. -/
def RetCu (x : Sg) (p m : Nat) (w : World) (e : Ending) (w' : World) : Prop := ∃ a c, e = .returned (sgV ⟨cutS x.ct p m, a, c⟩) ∧ Rd w' a (cutS x.ct p m).ws ∧ (a = none → c = 0) ∧ (∀ q, a = some q → (x.a = some q ∨ w.heap.size ≤ q.block) ∧ q.block < w'.heap.size) ∧ Below w.heap.size w w'

theorem Fresh.rdq {w : World} {lo : Nat} {a : Option Addr} {ys : List Nat} (h : Fresh w lo a ys) (h1 : 1 ≤ ys.length) (hl : ys.length ≤ 1048576) (hx : ∀ x ∈ ys, x < 18446744073709551616) : Rd w a ys ∧ ∃ g, a = some ⟨g, 0, none⟩ ∧ lo ≤ g ∧ g < w.heap.size := by
  rcases h with ⟨h2, h3⟩ | ⟨g, h3, h4, h5⟩
  · rw [h2] at h1; simp at h1
  · exact ⟨by rw [h3]; exact h5.rd hl hx, g, h3, h4, h5.lt⟩

set_option maxHeartbeats 400000 in
theorem constSeg_any (W : Int) (a : Option Addr) (n c : Nat) (w : World) :
    Calls Tryz.prog 66 #[.agg #[.int .i64 W, .slice a n c]] w fun e w' => e = .returned (.agg #[.int .i64 (-1), .int .i64 0, .int .i64 W, .int .i64 W, .slice a n c]) ∧ Below w.heap.size w w' := by
  have BB : Hid (Below w.heap.size w ((w.alloc (Obj.cells #[Value.int .i64 W, Value.slice a n c] 60)).alloc (Obj.cells #[Value.int .i64 (-1), Value.int .i64 0, Value.int .i64 W, Value.int .i64 W, Value.slice a n c] 67))) := ((Below.refl _ _).alloc (Nat.le_refl _) _).alloc (by simp) _
  go_enter Tryz.func66, Tryz.ntmps66
  go_wp2_with fail
  exact bodyPost_ret (v := .agg #[.int .i64 (-1), .int .i64 0, .int .i64 W, .int .i64 W, .slice a n c]) (by simp [results, Tryz.results66, go_sem]) rfl ⟨rfl, BB.out⟩

set_option maxHeartbeats 1000000 in
theorem segPart_any (x : Sg) (p m : Nat) (w : World) (hok : okS x.ct) (hlo : 0 ≤ x.ct.lo ∧ x.ct.lo + x.ct.wd ≤ 4096) (hm : 1 ≤ m) (hp : (p : Int) + m ≤ x.ct.wd) (hr : Rd w x.a x.ct.ws) (hn : x.a = none → x.c = 0) (hl : ∀ q, x.a = some q → q.block < w.heap.size) :
    Calls Tryz.prog 90 #[.agg #[.int .i64 x.ct.v, .int .i64 x.ct.lo, .int .i64 x.ct.wd, .int .i64 x.ct.bw, .slice x.a x.ct.ws.length x.c], .int .i64 (p : Int), .int .i64 (m : Int)] w (RetCu x p m w) := by
  obtain ⟨⟨v, lo, wd, bw, ws⟩, sa, sc⟩ := x
  simp only [] at hok hlo hp hr hn hl ⊢
  have hwd := hok.2.1
  simp only [] at hwd
  obtain ⟨wl, hwl⟩ : ∃ n, ws.length = n := ⟨_, rfl⟩
  have HWL := kide hwl
  by_cases e1 : (m : Int) = wd
  · have hc : cutS ⟨v, lo, wd, bw, ws⟩ p m = ⟨v, lo, wd, bw, ws⟩ := by unfold cutS; rw [if_pos e1]
    unfold RetCu
    simp only []
    rw [hc]
    unfold sgV
    simp only []
    subst e1
    have hb : Below w.heap.size w ((w.alloc (Obj.cells #[Value.int .i64 v, Value.int .i64 lo, Value.int .i64 (m : Int), Value.int .i64 bw, Value.slice sa wl sc] 67)).alloc (Obj.cells #[Value.int .i64 v, Value.int .i64 lo, Value.int .i64 (m : Int), Value.int .i64 bw, Value.slice sa wl sc] 67)) := ((Below.refl _ _).alloc (Nat.le_refl _) _).alloc (by simp) _
    have BB := kide hb
    have HR := kide hr
    have HN := kide hn
    have HL := kide hl
    clear hc hr hn hl hok hb
    rw [hwl]
    clear hwl
    go_enter Tryz.func90, Tryz.ntmps90
    go_wp2_with fail
    exact bodyPost_ret (v := .agg #[.int .i64 v, .int .i64 lo, .int .i64 (m : Int), .int .i64 bw, .slice sa wl sc]) (by simp [results, Tryz.results90, go_sem]) rfl ⟨sa, sc, rfl, HR.out.later BB.out, HN.out, fun q hq => ⟨.inl hq, Nat.lt_of_lt_of_le (HL.out q hq) BB.out.size⟩, BB.out⟩
  · have e1b : ((m : Int) == wd) = false := beq_eq_false_iff_ne.2 e1
    by_cases e2 : v = -1
    · have hbw : bw = wd := by
        rcases hok.2.2.2 with h9 | h9
        · exact h9.2.2.1
        · simp only [] at h9; omega
      have hrt : rightB bw ws = true := by
        rcases hok.2.2.2 with h9 | h9
        · exact h9.2.2.2
        · simp only [] at h9; omega
      subst e2 hbw
      obtain ⟨W, rfl⟩ := Int.eq_ofNat_of_zero_le (show 0 ≤ bw by omega)
      obtain ⟨P9, hP9⟩ : ∃ P, pack (((bitsTo ws W).drop p).take m) = P := ⟨_, rfl⟩
      have hc : cutS ⟨-1, lo, (W : Int), (W : Int), ws⟩ p m = ⟨-1, 0, (m : Int), (m : Int), P9⟩ := by
        unfold cutS
        rw [if_neg e1, if_pos rfl]
        simp only [Int.toNat_natCast, hP9]
      have hPL : P9.length = (m + 63) / 64 := by rw [← hP9, pack_len, cut_len _ _ _ _ (by omega)]
      have hpart : partR (W : Int) ws ((p : Int) + (m : Int) - 1) (p : Int) = ((m : Int), P9, true) := by
        unfold partR
        rw [if_pos ⟨hrt, by omega, by omega, by omega⟩]
        rw [Int.toNat_natCast, Int.toNat_natCast, show (p : Int) + (m : Int) - 1 - (p : Int) + 1 = (m : Int) by omega, Int.toNat_natCast, hP9]
      have HPL : Hid (1 ≤ P9.length ∧ P9.length ≤ 1048576 ∧ ∀ x ∈ P9, x < 18446744073709551616) := ⟨by omega, by omega, by rw [← hP9]; exact pack_lt _⟩
      unfold RetCu
      simp only []
      rw [hc]
      unfold sgV
      simp only []
      have HPT := kide (fun u (hu : Below w.heap.size w u) => implPart_any (W : Int) sa sc ws ((p : Int) + (m : Int) - 1) (p : Int) u (hr.later hu) (WalkArith.wf_i64 ⟨by omega, by omega⟩))
      rw [hpart, hwl] at HPT
      rw [hwl]
      have hw1 : IntKind.i64.wrap ((p : Int) + (m : Int)) = (p : Int) + (m : Int) := by rw [IntKind.wrap_i64]; omega
      have hw2 : IntKind.i64.wrap ((p : Int) + (m : Int) - 1) = (p : Int) + (m : Int) - 1 := by rw [IntKind.wrap_i64]; omega
      have hb1 : Below w.heap.size w ((w.alloc (Obj.cells #[Value.int .i64 (-1), Value.int .i64 lo, Value.int .i64 (W : Int), Value.int .i64 (W : Int), Value.slice sa wl sc] 67)).alloc (Obj.cells #[Value.int .i64 0, Value.int .i64 0, Value.int .i64 0, Value.int .i64 0, Value.slice none 0 0] 67)) := ((Below.refl _ _).alloc (Nat.le_refl _) _).alloc (by simp) _
      have XB := kide ((Bz.new w #[Value.int .i64 (-1), Value.int .i64 lo, Value.int .i64 (W : Int), Value.int .i64 (W : Int), Value.slice sa wl sc] 67).later ((Below.refl _ _).alloc (Nat.le_refl _) (Obj.cells #[Value.int .i64 0, Value.int .i64 0, Value.int .i64 0, Value.int .i64 0, Value.slice none 0 0] 67)))
      have XR : Hid (Bz ((w.alloc (Obj.cells #[Value.int .i64 (-1), Value.int .i64 lo, Value.int .i64 (W : Int), Value.int .i64 (W : Int), Value.slice sa wl sc] 67)).alloc (Obj.cells #[Value.int .i64 0, Value.int .i64 0, Value.int .i64 0, Value.int .i64 0, Value.slice none 0 0] 67)) (w.heap.size + 1) #[Value.int .i64 0, Value.int .i64 0, Value.int .i64 0, Value.int .i64 0, Value.slice none 0 0] 67) := by
        have h9 := Bz.new (w.alloc (Obj.cells #[Value.int .i64 (-1), Value.int .i64 lo, Value.int .i64 (W : Int), Value.int .i64 (W : Int), Value.slice sa wl sc] 67)) #[Value.int .i64 0, Value.int .i64 0, Value.int .i64 0, Value.int .i64 0, Value.slice none 0 0] 67
        rwa [show (w.alloc (Obj.cells #[Value.int .i64 (-1), Value.int .i64 lo, Value.int .i64 (W : Int), Value.int .i64 (W : Int), Value.slice sa wl sc] 67)).heap.size = w.heap.size + 1 by simp] at h9
      have BV := kide hb1
      clear hok hr hn hl hc hpart hP9 hPL hrt hb1
      go_enter Tryz.func90, Tryz.ntmps90
      go_wp2_with fail
      generalize (w.alloc (Obj.cells #[Value.int .i64 (-1), Value.int .i64 lo, Value.int .i64 (W : Int), Value.int .i64 (W : Int), Value.slice sa wl sc] 67)).alloc (Obj.cells #[Value.int .i64 0, Value.int .i64 0, Value.int .i64 0, Value.int .i64 0, Value.slice none 0 0] 67) = V at *
      refine Calls.mono (HPT.out V BV.out) ?_
      rintro e V2 ⟨a9, c9, rfl, hf9, hb9⟩
      obtain ⟨r9, g9, rfl, l9, m9⟩ := hf9.rdq HPL.out.1 HPL.out.2.1 HPL.out.2.2
      have XR2 := kide (XR.out.later hb9)
      have R9 := kide r9
      have B2 := kide (BV.out.trans (hb9.mono BV.out.size))
      have LG : Hid (w.heap.size ≤ g9) := Nat.le_trans BV.out.size l9
      have LV := kide l9
      clear hf9 r9 hb9 l9
      have BA : Hid (Below V2.heap.size V2 (V2.alloc (Obj.cells #[Value.int .i64 (m : Int), Value.slice (some ⟨g9, 0, none⟩) P9.length c9] 60))) := (Below.refl _ _).alloc (Nat.le_refl _) _
      go_wp2_with fail
      refine Calls.mono (constSeg_any _ _ _ _ _) ?_
      rintro e V3 ⟨rfl, hb3⟩
      have b3 := BA.out.trans (hb3.mono BA.out.size)
      have XR3 := XR2.out.later b3
      have B3 := kide (B2.out.trans (b3.mono B2.out.size))
      have R3 := kide (R9.out.later b3)
      have m3 : g9 < V3.heap.size := Nat.lt_of_lt_of_le m9 b3.size
      have y0 := XR3.cell 0
      have y1 := XR3.cell 1
      have y2 := XR3.cell 2
      have y3 := XR3.cell 3
      have y4 := XR3.cell 4
      have z0 := XR3.froz 0
      have z1 := XR3.froz 1
      have z2 := XR3.froz 2
      have z3 := XR3.froz 3
      have z4 := XR3.froz 4
      simp at y0 y1 y2 y3 y4
      have XR9 := kide XR3
      clear hb3 b3 XR3
      have Y9 : Hid (Bz (((((V3.setCell ⟨w.heap.size + 1, 0, none⟩ (Value.int .i64 (-1))).setCell ⟨w.heap.size + 1, 1, none⟩ (Value.int .i64 0)).setCell ⟨w.heap.size + 1, 2, none⟩ (Value.int .i64 (m : Int))).setCell ⟨w.heap.size + 1, 3, none⟩ (Value.int .i64 (m : Int))).setCell ⟨w.heap.size + 1, 4, none⟩ (Value.slice (some ⟨g9, 0, none⟩) P9.length c9)) (w.heap.size + 1) #[Value.int .i64 (-1), Value.int .i64 0, Value.int .i64 (m : Int), Value.int .i64 (m : Int), Value.slice (some ⟨g9, 0, none⟩) P9.length c9] 67) := (((((XR9.out.set 0 _).set 1 _).set 2 _).set 3 _).set 4 _)
      have BZ : Hid (Below w.heap.size w (((((V3.setCell ⟨w.heap.size + 1, 0, none⟩ (Value.int .i64 (-1))).setCell ⟨w.heap.size + 1, 1, none⟩ (Value.int .i64 0)).setCell ⟨w.heap.size + 1, 2, none⟩ (Value.int .i64 (m : Int))).setCell ⟨w.heap.size + 1, 3, none⟩ (Value.int .i64 (m : Int))).setCell ⟨w.heap.size + 1, 4, none⟩ (Value.slice (some ⟨g9, 0, none⟩) P9.length c9))) := (((((B3.out.setCell (p := ⟨w.heap.size + 1, 0, none⟩) (Nat.le_succ _) _).setCell (p := ⟨w.heap.size + 1, 1, none⟩) (Nat.le_succ _) _).setCell (p := ⟨w.heap.size + 1, 2, none⟩) (Nat.le_succ _) _).setCell (p := ⟨w.heap.size + 1, 3, none⟩) (Nat.le_succ _) _).setCell (p := ⟨w.heap.size + 1, 4, none⟩) (Nat.le_succ _) _)
      have GZ : Hid (V3.grownBy (((((V3.setCell ⟨w.heap.size + 1, 0, none⟩ (Value.int .i64 (-1))).setCell ⟨w.heap.size + 1, 1, none⟩ (Value.int .i64 0)).setCell ⟨w.heap.size + 1, 2, none⟩ (Value.int .i64 (m : Int))).setCell ⟨w.heap.size + 1, 3, none⟩ (Value.int .i64 (m : Int))).setCell ⟨w.heap.size + 1, 4, none⟩ (Value.slice (some ⟨g9, 0, none⟩) P9.length c9)) (some (w.heap.size + 1))) := ⟨rfl, rfl, rfl, by simp, fun k hk hne => by
        have h9 : k ≠ w.heap.size + 1 := fun e => hne (by rw [e])
        rw [heap_setCell_other _ _ _ _ (by simpa using h9), heap_setCell_other _ _ _ _ (by simpa using h9), heap_setCell_other _ _ _ _ (by simpa using h9), heap_setCell_other _ _ _ _ (by simpa using h9), heap_setCell_other _ _ _ _ (by simpa using h9)]⟩
      have RZ := kide (rd_gr R3.out GZ.out (fun q hq e => by cases hq; have h9 := Option.some.inj e; simp only [] at h9; have := XR.out.lt; have := LV.out; omega))
      go_wp2_with fail
      generalize (((((V3.setCell ⟨w.heap.size + 1, 0, none⟩ (Value.int .i64 (-1))).setCell ⟨w.heap.size + 1, 1, none⟩ (Value.int .i64 0)).setCell ⟨w.heap.size + 1, 2, none⟩ (Value.int .i64 (m : Int))).setCell ⟨w.heap.size + 1, 3, none⟩ (Value.int .i64 (m : Int))).setCell ⟨w.heap.size + 1, 4, none⟩ (Value.slice (some ⟨g9, 0, none⟩) P9.length c9)) = Z at *
      have x0 := Y9.out.cell 0
      have x1 := Y9.out.cell 1
      have x2 := Y9.out.cell 2
      have x3 := Y9.out.cell 3
      have x4 := Y9.out.cell 4
      simp at x0 x1 x2 x3 x4
      exact bodyPost_ret (v := .agg #[Value.int .i64 (-1), Value.int .i64 0, Value.int .i64 (m : Int), Value.int .i64 (m : Int), Value.slice (some ⟨g9, 0, none⟩) P9.length c9]) (by simp [results, Tryz.results90, go_sem, x0, x1, x2, x3, x4]) rfl ⟨_, _, rfl, RZ.out, fun e => (by cases e), fun q hq => ⟨.inr (by cases hq; exact LG.out), by cases hq; exact Nat.lt_of_lt_of_le m3 GZ.out.size⟩, BZ.out⟩
    · have hv0 : 0 ≤ v := by
        rcases hok.2.2.2 with h9 | h9
        · exact absurd h9.1 e2
        · exact h9.1
      have e2b : (v == -1) = false := beq_eq_false_iff_ne.2 e2
      have hc : cutS ⟨v, lo, wd, bw, ws⟩ p m = ⟨v, lo + p, (m : Int), 0, []⟩ := by unfold cutS; rw [if_neg e1, if_neg e2]
      unfold RetCu
      simp only []
      rw [hc]
      unfold sgV
      simp only [List.length_nil]
      rw [hwl]
      have hw1 : IntKind.i64.wrap (lo + (p : Int)) = lo + (p : Int) := by rw [IntKind.wrap_i64]; omega
      have hb : Below w.heap.size w ((w.alloc (Obj.cells #[Value.int .i64 v, Value.int .i64 lo, Value.int .i64 wd, Value.int .i64 bw, Value.slice sa wl sc] 67)).alloc (Obj.cells #[Value.int .i64 v, Value.int .i64 (lo + p), Value.int .i64 (m : Int), Value.int .i64 0, Value.slice none 0 0] 67)) := ((Below.refl _ _).alloc (Nat.le_refl _) _).alloc (by simp) _
      have BB := kide hb
      clear hok hr hn hl hc hb
      go_enter Tryz.func90, Tryz.ntmps90
      go_wp2_with fail
      exact bodyPost_ret (v := .agg #[.int .i64 v, .int .i64 (lo + p), .int .i64 (m : Int), .int .i64 0, .slice none 0 0]) (by simp [results, Tryz.results90, go_sem]) rfl ⟨none, 0, rfl, ⟨by simp, by simp, .inl rfl⟩, fun _ => rfl, fun q hq => (by cases hq), BB.out⟩
end Go.Proofs.YtckidgpopbpagaaGreatDoor

/- One round of gathering: what is put behind, what is rewritten in place. -/
namespace Go.Proofs.YtckidgpopbpagaaGreatDoor
set_option linter.unusedVariables false
set_option linter.unusedSimpArgs false
open Go.RowKit Go.Shelf
attribute [local go_sem] Oper.semAt_some

theorem rd_set {w : World} {a : Option Addr} {xs : List Nat} {β : Nat} {cs : Array Value} {t : TypeId} (h : Rd w a xs) (hb : Bz w β cs t) (hno : ∀ (j : Nat) (n : Int), cs[j]? ≠ some (.int .u64 n)) (i : Nat) (u : Value) : Rd (w.setCell ⟨β, i, none⟩ u) a xs := by
  obtain ⟨h1, h2, h3⟩ := h
  refine ⟨h1, h2, ?_⟩
  rcases h3 with h3 | ⟨b, o, rfl, hc⟩
  · exact .inl h3
  · refine .inr ⟨b, o, rfl, fun j hj => ?_⟩
    have h9 := hc j hj
    have hne : b ≠ β := fun e => by
      subst e
      rw [hb.cell (o + j)] at h9
      exact hno _ _ h9
    rw [World.cell?_of_block (a := ⟨b, o + j, none⟩) (heap_setCell_other _ _ _ _ (by simpa using hne))]
    exact h9
theorem no_u64 {v : Value} (h : ∀ n, v ≠ .int .u64 n) : ∀ (j : Nat) (n : Int), (#[v] : Array Value)[j]? ≠ some (.int .u64 n) := fun j n e => by
  match j, e with
  | 0, e => simp at e; exact h n e
  | j + 1, e => simp at e
theorem wpListIn_appS5 {l n : Nat} {w : World} {ops : Array Oper} {rest : List Oper} {o : Oper} {a : Act} {Q : Exit → Act → World → Prop} (hgd : o.guard = none) (s x : Operand)
    (ho : o.op = .call { callee := .builtin .append, args := #[s, x], argTypes := #[42, 42] })
    (B : Nat) (v : Value) (k : List Sg) (y : Sg) (hs : a.eval s = v) (hown : OS5 w B v k) (gx c : Nat) (hx : a.eval x = .slice (some ⟨gx, 0, none⟩) 1 c)
    (hb : Bz w gx #[.int .i64 y.ct.v, .int .i64 y.ct.lo, .int .i64 y.ct.wd, .int .i64 y.ct.bw, .slice y.a y.ct.ws.length y.c] 67) (hl : k.length ≤ 1048576) (hB : B ≤ w.heap.size)
    (h : ∀ g cap w', OS5 w' B (.slice (some ⟨g, 0, none⟩) (k.length + 1) cap) (k ++ [y]) → w.grownBy w' v.ownBlock → (v.ownBlock = some g ∨ g = w.heap.size) → wpListIn (Fence.wide.inRound l) n Tryz.prog ops Q rest (a.put o.dst (.slice (some ⟨g, 0, none⟩) (k.length + 1) cap)) w') : wpListIn (Fence.wide.inRound l) n Tryz.prog ops Q (o :: rest) a w := by
  obtain ⟨i0, hi, hz0, hz1, hz2⟩ := info_parts Tryz.infoSeg9
  obtain ⟨g, cap, w', hrun, h1, h2, h3, _⟩ := run_append_lies (P := Tryz.prog) w 42 o.type B 67 i0 _ 5 56 Tryz.underlying42 hi hz0 hz1 hz2 rfl (by decide) v k.length (sgc k) hown ⟨gx, 0, none⟩ 1 c (sgc [y]) rfl (by
    intro j u hj
    rw [Addr.add_lit]
    match j, hj with
    | 0, hj => simp [sgc] at hj; subst hj; exact hb.cell 0
    | 1, hj => simp [sgc] at hj; subst hj; exact hb.cell 1
    | 2, hj => simp [sgc] at hj; subst hj; exact hb.cell 2
    | 3, hj => simp [sgc] at hj; subst hj; exact hb.cell 3
    | 4, hj => simp [sgc] at hj; subst hj; exact hb.cell 4
    | j + 5, hj => simp [sgc] at hj) (by
    intro u hu
    simp [sgc] at hu
    rcases hu with rfl | rfl | rfl | rfl | rfl <;> rfl) (by decide) (by unfold maxLen; omega) (by omega) hB _ rfl
  have h1' : OS5 w' B (.slice (some ⟨g, 0, none⟩) (k.length + 1) cap) (k ++ [y]) := by
    unfold OS5
    rw [sgc_append, List.length_append]
    exact h1
  refine wpListIn_plain hgd fun K hK' => ?_
  unfold Oper.wpIn
  refine ⟨?_, ?_⟩
  · simp [Oper.about, ho, resolve, Target.leads, Sem.run_pure]
  · rw [Oper.semAt_plain (Fence.wide.inRound l) _ _ (by rw [ho]; intro c hc'; cases hc')]
    simp [execOp, ho, resolve, invoke, builtin, hs, hx, hrun, Result.andThen]
    exact hK' _ _ (h g cap w' h1' h2 h3)

/-- What is no cells lies as it lay. -/
def Nz (W W' : World) : Prop := W.heap.size ≤ W'.heap.size ∧ ∀ (k : Nat) (o : Obj), W.heap[k]? = some o → o.isCells = false → W'.heap[k]? = some o
theorem Nz.trans {A B C : World} (h : Nz A B) (k : Nz B C) : Nz A C := ⟨Nat.le_trans h.1 k.1, fun j o hj hc => k.2 j o (h.2 j o hj hc) hc⟩
theorem Nz.below {A B : World} (h : Below A.heap.size A B) : Nz A B := ⟨h.size, fun j o hj _ => (h.block j (Array.getElem?_eq_some_iff.1 hj).1).trans hj⟩
theorem Nz.set {W : World} {β i : Nat} {cs : Array Value} {t : TypeId} (hb : Bz W β cs t) (u : Value) : Nz W (W.setCell ⟨β, i, none⟩ u) := ⟨by simp, fun k o hk hc => by
  rw [heap_setCell_other _ _ _ _ (fun e => by
    simp only [] at e
    unfold Bz at hb
    rw [e, hb] at hk
    cases hk
    cases hc)]
  exact hk⟩
theorem Nz.grown {W W' : World} {row : Option Nat} (hg : W.grownBy W' row) (hr : ∀ r, row = some r → ∃ cur t, W.heap[r]? = some (.cells cur t (0, 0))) : Nz W W' := ⟨hg.size, fun k o hk hc => (hg.block k (Array.getElem?_eq_some_iff.1 hk).1 (fun e => by
  obtain ⟨cur, t, h9⟩ := hr k e.symm
  rw [hk] at h9
  cases h9
  cases hc)).trans hk⟩
theorem Nz.keeps {W W' : World} (h : Nz W W') (B : Nat) : KeepsFrom B W W' := ⟨h.1, fun k o _ hk hc => h.2 k o hk hc⟩

theorem bz_os5 {w w' : World} {b B : Nat} {v : Value} {l : List Sg} {cs : Array Value} {t : TypeId} (hb : Bz w b cs t) (h : OS5 w B v l) (ht : t ≠ 67) (hg : w.grownBy w' v.ownBlock) : Bz w' b cs t := by
  unfold Bz at hb ⊢
  rw [hg.block b (lt_of_block hb) (fun e => by
    obtain ⟨cur, hc⟩ := h.typed e.symm
    rw [hb] at hc
    cases hc
    exact ht rfl)]
  exact hb
theorem os5_set {w : World} {B b i : Nat} {v : Value} {l : List Sg} {cs : Array Value} {t : TypeId} (h : OS5 w B v l) (hb : Bz w b cs t) (ht : t ≠ 67) (u : Value) : OS5 (w.setCell ⟨b, i, none⟩ u) B v l := h.move fun k hk => by
  obtain ⟨cur, hc⟩ := h.typed hk
  exact heap_setCell_other _ _ _ _ (fun e => by
    simp only [] at e
    unfold Bz at hb
    rw [e, hb] at hc
    cases hc
    exact ht rfl)

/-- One segment more. -/
theorem Gi.app {w m w6 : World} {b N g6 c6 vc : Nat} {va : Option Addr} {L : List Sc} {pre : List Sg} {ow : Bool} {k : List Sg} {x : Sg} (h : Gi w b L pre ow (.slice va N vc) k m)
    (ho : OS5 w6 b (.slice (some ⟨g6, 0, none⟩) (N + 1) c6) (k ++ [x])) (hg : m.grownBy w6 (Value.slice va N vc).ownBlock) (hl : (Value.slice va N vc).ownBlock = some g6 ∨ g6 = m.heap.size)
    (hp : (pre ++ [x]).map Sg.ct <+: L) (hr : Rd m x.a x.ct.ws) (hn : x.a = none → x.c = 0) (hq : ∀ p, x.a = some p → (Value.slice va N vc).ownBlock ≠ some p.block ∧ p.block < m.heap.size) (hlo : 0 ≤ x.ct.lo ∧ x.ct.lo ≤ 4096) (hnf : Nf (k.map Sg.ct ++ [x.ct])) (hlen : k.length + 1 ≤ 2000) :
    Gi w b L (pre ++ [x]) false (.slice (some ⟨g6, 0, none⟩) (N + 1) c6) (k ++ [x]) ((w6.setCell ⟨b + 1 + 1, 0, none⟩ (.slice (some ⟨g6, 0, none⟩) (N + 1) c6)).setCell ⟨b + 1 + 1 + 1, 0, none⟩ (.bool false)) ∧ Nz m ((w6.setCell ⟨b + 1 + 1, 0, none⟩ (.slice (some ⟨g6, 0, none⟩) (N + 1) c6)).setCell ⟨b + 1 + 1 + 1, 0, none⟩ (.bool false)) ∧ Below b m ((w6.setCell ⟨b + 1 + 1, 0, none⟩ (.slice (some ⟨g6, 0, none⟩) (N + 1) c6)).setCell ⟨b + 1 + 1 + 1, 0, none⟩ (.bool false)) := by
  have q0 := bz_os5 h.r0 h.row (by decide) hg
  have q1 := bz_os5 h.r1 h.row (by decide) hg
  have q2 := bz_os5 h.fx h.row (by decide) hg
  have q3 := bz_os5 h.ox h.row (by decide) hg
  have q4 := q3.other (show b + 1 + 1 + 1 ≠ b + 1 + 1 by omega) 0 (.slice (some ⟨g6, 0, none⟩) (N + 1) c6)
  have hge : ∀ j, (Value.slice va N vc).ownBlock = some j → b ≤ j := fun j hj => (h.row.lt hj).1
  have hbm : b ≤ m.heap.size := by have := h.r0.lt; omega
  have hb6 : Below b m w6 := ⟨hg.os, hg.tape, hg.output, hg.size, fun j hj => hg.block j (by omega) (fun e => by have := hge j e.symm; omega)⟩
  have hb9 : Below b m ((w6.setCell ⟨b + 1 + 1, 0, none⟩ (.slice (some ⟨g6, 0, none⟩) (N + 1) c6)).setCell ⟨b + 1 + 1 + 1, 0, none⟩ (.bool false)) := (hb6.setCell (p := ⟨b + 1 + 1, 0, none⟩) (by simp only []; omega) _).setCell (p := ⟨b + 1 + 1 + 1, 0, none⟩) (by simp only []; omega) _
  have hrd : ∀ y : Sg, Rd m y.a y.ct.ws → (∀ p, y.a = some p → (Value.slice va N vc).ownBlock ≠ some p.block) → Rd ((w6.setCell ⟨b + 1 + 1, 0, none⟩ (.slice (some ⟨g6, 0, none⟩) (N + 1) c6)).setCell ⟨b + 1 + 1 + 1, 0, none⟩ (.bool false)) y.a y.ct.ws := fun y hy hne =>
    rd_set (rd_set (rd_gr hy hg hne) q2 (no_u64 (fun n e => by cases e)) 0 _) q4 (no_u64 (fun n e => by cases e)) 0 _
  refine ⟨⟨(q0.other (by omega) 0 _).other (by omega) 0 _, (q1.other (by omega) 0 _).other (by omega) 0 _, (q2.set 0 _).other (by omega) 0 _, q4.set 0 _, os5_set (os5_set ho q2 (by decide) _) q4 (by decide) _, by rw [List.map_append]; exact hnf, ?_, ?_, by simp; omega, ?_, ?_, ?_, fun e => by (cases e), ?_, hp, h.bel.trans hb9⟩, ?_, hb9⟩
  · rw [List.map_append, List.map_append, formP_app, formP_app, h.bits]
  · intro y hy
    rcases List.mem_append.1 hy with hy | hy
    · exact h.lo y hy
    · rw [List.mem_singleton.1 hy]; exact hlo
  · intro y hy
    rcases List.mem_append.1 hy with hy | hy
    · exact hrd y (h.rd y hy) (fun p hp => h.ra y hy p hp)
    · rw [List.mem_singleton.1 hy]; exact hrd x hr (fun p hp => (hq p hp).1)
  · intro y hy
    rcases List.mem_append.1 hy with hy | hy
    · exact h.no y hy
    · rw [List.mem_singleton.1 hy]; exact hn
  · intro y hy p hp
    have hs : m.heap.size ≤ ((w6.setCell ⟨b + 1 + 1, 0, none⟩ (.slice (some ⟨g6, 0, none⟩) (N + 1) c6)).setCell ⟨b + 1 + 1 + 1, 0, none⟩ (.bool false)).heap.size := by have := hg.size; simpa using this
    rcases List.mem_append.1 hy with hy | hy
    · exact Nat.lt_of_lt_of_le (h.pl y hy p hp) hs
    · rw [List.mem_singleton.1 hy] at hp; exact Nat.lt_of_lt_of_le (hq p hp).2 hs
  · intro y hy p hp e
    have hh : (Value.slice va N vc).ownBlock ≠ some p.block ∧ p.block < m.heap.size := by
      rcases List.mem_append.1 hy with hy | hy
      · exact ⟨h.ra y hy p hp, h.pl y hy p hp⟩
      · rw [List.mem_singleton.1 hy] at hp; exact hq p hp
    have e9 : g6 = p.block := Option.some.inj e
    rcases hl with h9 | h9
    · exact hh.1 (by rw [h9, e9])
    · omega
  · refine ((Nz.grown hg (fun r e => ?_)).trans (Nz.set q2 _)).trans (Nz.set q4 _)
    obtain ⟨cur, hc⟩ := h.row.typed e
    exact ⟨cur, _, hc⟩

theorem os5_last {w : World} {B g n c M : Nat} {k : List Sg} {y : Sg} (h : OS5 w B (.slice (some ⟨g, 0, none⟩) n c) (k ++ [y])) (hM : k.length = M) :
    w.cell? ⟨g, M * 5, none⟩ = some (.int .i64 y.ct.v) ∧ w.cell? ⟨g, M * 5 + 1, none⟩ = some (.int .i64 y.ct.lo) ∧ w.cell? ⟨g, M * 5 + 2, none⟩ = some (.int .i64 y.ct.wd) ∧ w.cell? ⟨g, M * 5 + 3, none⟩ = some (.int .i64 y.ct.bw) ∧ w.cell? ⟨g, M * 5 + 4, none⟩ = some (.slice y.a y.ct.ws.length y.c) := by
  have key : ∀ (j : Nat) (u : Value), (sgc [y])[j]? = some u → w.cell? ⟨g, M * 5 + j, none⟩ = some u := fun j u hj => by
    have hl : (sgc k).length = M * 5 := by rw [sgc_len, hM]
    have hc := World.ownsRow.cells h (g := g) rfl (M * 5 + j) u (by rw [sgc_append, List.getElem?_append_right (by omega), hl, Nat.add_sub_cancel_left]; exact hj)
    rw [Addr.add_lit] at hc
    simpa using hc
  exact ⟨key 0 _ rfl, key 1 _ rfl, key 2 _ rfl, key 3 _ rfl, key 4 _ rfl⟩

def put2 (w : World) (g o : Nat) (y : Sg) : World := (w.setCell ⟨g, o + 3, none⟩ (.int .i64 y.ct.bw)).setCell ⟨g, o + 4, none⟩ (.slice y.a y.ct.ws.length y.c)
def put5 (w : World) (g o : Nat) (y : Sg) : World := ((((w.setCell ⟨g, o, none⟩ (.int .i64 y.ct.v)).setCell ⟨g, o + 1, none⟩ (.int .i64 y.ct.lo)).setCell ⟨g, o + 2, none⟩ (.int .i64 y.ct.wd)).setCell ⟨g, o + 3, none⟩ (.int .i64 y.ct.bw)).setCell ⟨g, o + 4, none⟩ (.slice y.a y.ct.ws.length y.c)
theorem grown_same {a b c : World} {r : Option Nat} (h : a.grownBy b r) (k : b.grownBy c r) : a.grownBy c r := ⟨k.os.trans h.os, k.tape.trans h.tape, k.output.trans h.output, Nat.le_trans h.size k.size, fun j hj hn => (k.block j (Nat.lt_of_lt_of_le hj h.size) hn).trans (h.block j hj hn)⟩
theorem os5_put2 {w : World} {B g n c M : Nat} {k : List Sg} {y z : Sg} (h : OS5 w B (.slice (some ⟨g, 0, none⟩) n c) (k ++ [y])) (hM : k.length = M) (hz : z.ct = y.ct) : OS5 (put2 w g (M * 5) z) B (.slice (some ⟨g, 0, none⟩) n c) (k ++ [z]) ∧ w.grownBy (put2 w g (M * 5) z) (some g) := by
  obtain ⟨a, c', e⟩ := h.form
  cases e
  have s1 := World.ownsRow.stored h (M * 5 + 3) (.int .i64 z.ct.bw)
  have s2 := World.ownsRow.stored s1.1 (M * 5 + 4) (.slice z.a z.ct.ws.length z.c)
  refine ⟨?_, grown_same s1.2 s2.2⟩
  have hl : (sgc k).length = M * 5 := by rw [sgc_len, hM]
  have e : sgc (k ++ [z]) = ((sgc (k ++ [y])).set (M * 5 + 3) (.int .i64 z.ct.bw)).set (M * 5 + 4) (.slice z.a z.ct.ws.length z.c) := by
    rw [sgc_append, sgc_append]
    simp [sgc, List.set_append, hl, hz]
  have h9 := s2.1
  unfold OS5
  rw [e, show (k ++ [z]).length = (k ++ [y]).length by simp]
  exact h9
theorem os5_put5 {w : World} {B g n c M : Nat} {k : List Sg} {y : Sg} (z : Sg) (h : OS5 w B (.slice (some ⟨g, 0, none⟩) n c) (k ++ [y])) (hM : k.length = M) : OS5 (put5 w g (M * 5) z) B (.slice (some ⟨g, 0, none⟩) n c) (k ++ [z]) ∧ w.grownBy (put5 w g (M * 5) z) (some g) := by
  obtain ⟨a, c', e⟩ := h.form
  cases e
  have s1 := World.ownsRow.stored h (M * 5) (.int .i64 z.ct.v)
  have s2 := World.ownsRow.stored s1.1 (M * 5 + 1) (.int .i64 z.ct.lo)
  have s3 := World.ownsRow.stored s2.1 (M * 5 + 2) (.int .i64 z.ct.wd)
  have s4 := World.ownsRow.stored s3.1 (M * 5 + 3) (.int .i64 z.ct.bw)
  have s5 := World.ownsRow.stored s4.1 (M * 5 + 4) (.slice z.a z.ct.ws.length z.c)
  refine ⟨?_, grown_same s1.2 (grown_same s2.2 (grown_same s3.2 (grown_same s4.2 s5.2)))⟩
  have hl : (sgc k).length = M * 5 := by rw [sgc_len, hM]
  have e : sgc (k ++ [z]) = (((((sgc (k ++ [y])).set (M * 5) (.int .i64 z.ct.v)).set (M * 5 + 1) (.int .i64 z.ct.lo)).set (M * 5 + 2) (.int .i64 z.ct.wd)).set (M * 5 + 3) (.int .i64 z.ct.bw)).set (M * 5 + 4) (.slice z.a z.ct.ws.length z.c) := by
    rw [sgc_append, sgc_append]
    simp [sgc, List.set_append, hl]
  have h9 := s5.1
  unfold OS5
  rw [e, show (k ++ [z]).length = (k ++ [y]).length by simp]
  exact h9

/-- The last one's words copied: it is another one of the same contents. -/
theorem Gi.swap {w u u' : World} {b g n c : Nat} {L : List Sc} {pre : List Sg} {k : List Sg} {y z : Sg} (h : Gi w b L pre false (.slice (some ⟨g, 0, none⟩) n c) (k ++ [y]) u) (hg : u.grownBy u' (some g)) (ho : OS5 u' b (.slice (some ⟨g, 0, none⟩) n c) (k ++ [z])) (hz : z.ct = y.ct)
    (hr : Rd u z.a z.ct.ws) (hn : z.a = none → z.c = 0) (hq : ∀ p, z.a = some p → p.block < u.heap.size ∧ p.block ≠ g) : Gi w b L pre false (.slice (some ⟨g, 0, none⟩) n c) (k ++ [z]) u' ∧ Nz u u' ∧ Below b u u' := by
  have hgo : u.grownBy u' (Value.slice (some ⟨g, 0, none⟩) n c).ownBlock := hg
  have hbg : b ≤ g := (h.row.lt (b := g) rfl).1
  have hbu : b ≤ u.heap.size := by have := h.r0.lt; omega
  have hb : Below b u u' := ⟨hg.os, hg.tape, hg.output, hg.size, fun j hj => hg.block j (by omega) (fun e => by cases e; omega)⟩
  have hm : (k ++ [z]).map Sg.ct = (k ++ [y]).map Sg.ct := by simp [hz]
  refine ⟨⟨bz_os5 h.r0 h.row (by decide) hgo, bz_os5 h.r1 h.row (by decide) hgo, bz_os5 h.fx h.row (by decide) hgo, bz_os5 h.ox h.row (by decide) hgo, ho, by rw [hm]; exact h.nf, by rw [hm]; exact h.bits, ?_, by have := h.len; simpa using this, ?_, ?_, ?_, fun e => by (cases e), ?_, h.pre, h.bel.trans hb⟩, Nz.grown hg (fun r e => ?_), hb⟩
  · intro x hx
    rcases List.mem_append.1 hx with hx | hx
    · exact h.lo x (by simp [hx])
    · rw [List.mem_singleton.1 hx, hz]; exact h.lo y (by simp)
  · intro x hx
    rcases List.mem_append.1 hx with hx | hx
    · exact rd_gr (h.rd x (by simp [hx])) hgo (fun p hp => h.ra x (by simp [hx]) p hp)
    · rw [List.mem_singleton.1 hx]
      exact rd_gr hr hg (fun p hp e => (hq p hp).2 (Option.some.inj e).symm)
  · intro x hx
    rcases List.mem_append.1 hx with hx | hx
    · exact h.no x (by simp [hx])
    · rw [List.mem_singleton.1 hx]; exact hn
  · intro x hx p hp
    rcases List.mem_append.1 hx with hx | hx
    · exact Nat.lt_of_lt_of_le (h.pl x (by simp [hx]) p hp) hg.size
    · rw [List.mem_singleton.1 hx] at hp; exact Nat.lt_of_lt_of_le (hq p hp).1 hg.size
  · intro x hx p hp
    rcases List.mem_append.1 hx with hx | hx
    · exact h.ra x (by simp [hx]) p hp
    · rw [List.mem_singleton.1 hx] at hp
      exact fun e => (hq p hp).2 (Option.some.inj e).symm
  · obtain ⟨cur, hc⟩ := h.row.typed (b := g) rfl
    cases e
    exact ⟨cur, _, hc⟩

theorem okS.short {s : Sc} (h : okS s) : s.ws.length ≤ 64 := by
  rcases h.2.2.2 with ⟨-, -, -, h9⟩ | ⟨-, -, h9⟩
  · have := right_W h9
    omega
  · simp [h9]
theorem rd_oww {w : World} {B n c : Nat} {a : Option Addr} {ws : List Nat} (h : OwW w B (.slice a n c) ws) (hl : ws.length ≤ 1048576) (hx : ∀ y ∈ ws, y < 18446744073709551616) : Rd w a ws := by
  refine ⟨hl, hx, ?_⟩
  rcases h.2 with ⟨e, h0⟩ | ⟨g, cap, cur, e, -⟩
  · exact .inl (List.eq_nil_of_length_eq_zero h0)
  · cases e
    refine .inr ⟨g, 0, rfl, fun i hi => ?_⟩
    have h9 := World.ownsRow.cells h (g := g) rfl i (.int .u64 ((ws.getD i 0 : Nat) : Int)) (by simp [u64s, List.getD, hi])
    rw [Addr.add_lit] at h9
    exact h9
/-- The last one and the next made one, in place. -/
theorem Gi.merge {w u u1 : World} {b g n c M : Nat} {L : List Sc} {pre : List Sg} {ow : Bool} {k : List Sg} {x y z : Sg} (h : Gi w b L pre ow (.slice (some ⟨g, 0, none⟩) n c) (k ++ [y]) u) (hM : k.length = M)
    (hA : OwW u b (.slice y.a y.ct.ws.length y.c) y.ct.ws) (hd : ∀ t ∈ k, ∀ p q, y.a = some p → t.a = some q → p.block ≠ q.block)
    (hg : u.grownBy u1 (Value.slice y.a y.ct.ws.length y.c).ownBlock) (hz : z.ct = oneS y.ct x.ct) (hZ : OwW u1 b (.slice z.a z.ct.ws.length z.c) z.ct.ws)
    (hl : ∀ j, (Value.slice z.a z.ct.ws.length z.c).ownBlock = some j → (Value.slice y.a y.ct.ws.length y.c).ownBlock = some j ∨ u.heap.size ≤ j)
    (hx : okS x.ct) (ho : oneB y.ct x.ct = true) (hw : y.ct.wd + x.ct.wd ≤ 4096) (hp : (pre ++ [x]).map Sg.ct <+: L) :
    Gi w b L (pre ++ [x]) true (.slice (some ⟨g, 0, none⟩) n c) (k ++ [z]) ((put5 u1 g (M * 5) z).setCell ⟨b + 1 + 1 + 1, 0, none⟩ (.bool true)) ∧ Nz u ((put5 u1 g (M * 5) z).setCell ⟨b + 1 + 1 + 1, 0, none⟩ (.bool true)) ∧ Below b u ((put5 u1 g (M * 5) z).setCell ⟨b + 1 + 1 + 1, 0, none⟩ (.bool true)) := by
  have hyo : okS y.ct := h.nf.ok y.ct (by simp)
  have hzo : okS z.ct := by rw [hz]; exact oneS_ok hyo hx hw
  have hgt := h.row.typed (b := g) rfl
  have hgl := h.row.lt (b := g) rfl
  have hyg : (Value.slice y.a y.ct.ws.length y.c).ownBlock ≠ some g := fun e => by
    obtain ⟨cur, hc⟩ := hgt
    obtain ⟨⟨cur', hc'⟩, -⟩ := oww_typed hA e
    rw [hc] at hc'
    cases hc'
  have hy0 : ∀ j, (Value.slice y.a y.ct.ws.length y.c).ownBlock = some j → b ≤ j := fun j e => (oww_typed hA e).2
  have hr1 : OS5 u1 b (.slice (some ⟨g, 0, none⟩) n c) (k ++ [y]) := h.row.move fun j hj => by
    cases hj
    exact hg.block g hgl.2 (fun e => hyg e.symm)
  obtain ⟨hr2, hg2⟩ := os5_put5 z hr1 hM
  have q0 := bz_os5 (bz_oww h.r0 hA (by decide) hg) hr1 (by decide) hg2
  have q1 := bz_os5 (bz_oww h.r1 hA (by decide) hg) hr1 (by decide) hg2
  have q2 := bz_os5 (bz_oww h.fx hA (by decide) hg) hr1 (by decide) hg2
  have q3 := bz_os5 (bz_oww h.ox hA (by decide) hg) hr1 (by decide) hg2
  have hbu : b ≤ u.heap.size := by have := h.r0.lt; omega
  have b1 : Below b u u1 := ⟨hg.os, hg.tape, hg.output, hg.size, fun j hj => hg.block j (by omega) (fun e => by have := hy0 j e.symm; omega)⟩
  have b2 : Below b u1 (put5 u1 g (M * 5) z) := ⟨hg2.os, hg2.tape, hg2.output, hg2.size, fun j hj => hg2.block j (by have := hg.size; omega) (fun e => by cases e; omega)⟩
  have b3 : Below b u ((put5 u1 g (M * 5) z).setCell ⟨b + 1 + 1 + 1, 0, none⟩ (.bool true)) := (b1.trans b2).setCell (p := ⟨b + 1 + 1 + 1, 0, none⟩) (by simp only []; omega) _
  have hzg : ∀ p, z.a = some p → p.block ≠ g := fun p hp9 e => by
    rcases hl p.block (by rw [hp9]; rfl) with h9 | h9
    · rw [e] at h9; exact hyg h9
    · omega
  have hzr : Rd u1 z.a z.ct.ws := rd_oww hZ (by have := hzo.short; omega) hzo.2.2.1
  have hsz : u.heap.size ≤ ((put5 u1 g (M * 5) z).setCell ⟨b + 1 + 1 + 1, 0, none⟩ (.bool true)).heap.size := b3.size
  have hzt : ∀ t ∈ k, ∀ p q, z.a = some p → t.a = some q → p.block ≠ q.block := fun t ht p q hp9 hq9 e => by
    rcases hl p.block (by rw [hp9]; rfl) with h9 | h9
    · cases hya : y.a with
      | none => rw [hya] at h9; cases h9
      | some r =>
        rw [hya] at h9
        exact hd t ht r q hya hq9 (by rw [← e]; exact Option.some.inj h9)
    · have := h.pl t (by simp [ht]) q hq9
      omega
  have hZ2 : OwW (put5 u1 g (M * 5) z) b (.slice z.a z.ct.ws.length z.c) z.ct.ws := World.ownsRow.kept hZ hg2 (.inr fun e => by
    cases hza : z.a with
    | none => rw [hza] at e; cases e
    | some p => rw [hza] at e; exact hzg p hza (Option.some.inj e))
  refine ⟨⟨q0.other (by omega) 0 _, q1.other (by omega) 0 _, q2.other (by omega) 0 _, q3.set 0 _, os5_set hr2 q3 (by decide) _, ?_, ?_, ?_, by have := h.len; simpa using this, ?_, ?_, ?_, fun _ => ⟨k, z, rfl, oww_set hZ2 q3 (by decide) _, hzt⟩, ?_, hp, h.bel.trans b3⟩, ?_, b3⟩
  · have h9 := h.nf
    rw [List.map_append] at h9 ⊢
    rw [show [z].map Sg.ct = [oneS y.ct x.ct] by simp [hz]]
    exact Nf.last h9 (by rw [← hz]; exact hzo)
  · have h9 := h.bits
    rw [List.map_append] at h9 ⊢
    rw [show [z].map Sg.ct = [oneS y.ct x.ct] by simp [hz], formP_one hyo hx ho, List.map_append, formP_app (pre.map Sg.ct), ← h9]
    rfl
  · intro t ht
    rcases List.mem_append.1 ht with ht | ht
    · exact h.lo t (by simp [ht])
    · rw [List.mem_singleton.1 ht, hz]
      have h9 := h.lo y (by simp)
      unfold oneS
      split
      · simp
      · exact h9
  · intro t ht
    rcases List.mem_append.1 ht with ht | ht
    · have t1 : Rd u1 t.a t.ct.ws := rd_gr (h.rd t (by simp [ht])) hg (fun q hq9 e => by
        cases hya : y.a with
        | none => rw [hya] at e; cases e
        | some r => rw [hya] at e; exact hd t ht r q hya hq9 (Option.some.inj e))
      have t2 := rd_gr t1 hg2 (fun q hq9 e => h.ra t (by simp [ht]) q hq9 e)
      exact rd_set t2 q3 (no_u64 (fun n e => by cases e)) 0 _
    · rw [List.mem_singleton.1 ht]
      have t2 := rd_gr hzr hg2 (fun q hq9 e => hzg q hq9 (Option.some.inj e).symm)
      exact rd_set t2 q3 (no_u64 (fun n e => by cases e)) 0 _
  · intro t ht
    rcases List.mem_append.1 ht with ht | ht
    · exact h.no t (by simp [ht])
    · rw [List.mem_singleton.1 ht]
      intro e
      rcases hZ.2 with ⟨e9, -⟩ | ⟨g9, cap, cur, e9, -⟩
      · simp at e9
        exact e9.2.2
      · rw [e] at e9; simp at e9
  · intro t ht p hp9
    rcases List.mem_append.1 ht with ht | ht
    · exact Nat.lt_of_lt_of_le (h.pl t (by simp [ht]) p hp9) hsz
    · rw [List.mem_singleton.1 ht] at hp9
      have h9 := (World.ownsRow.lt hZ2 p.block (by rw [hp9]; rfl)).2
      simpa using h9
  · intro t ht p hp9
    rcases List.mem_append.1 ht with ht | ht
    · exact h.ra t (by simp [ht]) p hp9
    · rw [List.mem_singleton.1 ht] at hp9
      exact fun e => hzg p hp9 (Option.some.inj e).symm
  · refine ((Nz.grown hg (fun r e => ?_)).trans (Nz.grown hg2 (fun r e => ?_))).trans (Nz.set q3 _)
    · obtain ⟨⟨cur, hc⟩, -⟩ := oww_typed hA e
      exact ⟨cur, _, hc⟩
    · cases e
      obtain ⟨cur, hc⟩ := hr1.typed (b := g) rfl
      exact ⟨cur, _, hc⟩

theorem heap_put2 {w : World} {b g o : Nat} {cs : Array Value} {t : TypeId} {y : Sg} (h : Bz w b cs t) (e : b ≠ g) : Bz (put2 w g o y) b cs t := (h.other e _ _).other e _ _
theorem oww_form {w : World} {B : Nat} {v : Value} {l : List Nat} (h : OwW w B v l) : ∃ a c, v = .slice a l.length c := by
  rcases h.2 with ⟨e, h0⟩ | ⟨g, cap, cur, e, -⟩
  · exact ⟨none, 0, by rw [h0]; exact e⟩
  · exact ⟨_, _, e⟩
theorem os5_oww {w w' : World} {B B' : Nat} {v v' : Value} {l : List Sg} {xs : List Nat} (h : OS5 w B v l) (hA : OwW w B' v' xs) (hg : w.grownBy w' v'.ownBlock) : OS5 w' B v l := h.move fun j hj => hg.block j (h.lt hj).2 (fun e => by
  obtain ⟨cur, hc⟩ := h.typed hj
  obtain ⟨⟨cur', hc'⟩, -⟩ := oww_typed hA e.symm
  rw [hc] at hc'
  cases hc')

/-- Which blocks gathering calls its own. -/
def OG (b : Nat) (ow : Bool) (v : Value) (l : List Sg) : Nat → Prop := fun k => k = b + 1 + 1 ∨ k = b + 1 + 1 + 1 ∨ v.ownBlock = some k ∨ (ow = true ∧ ∃ l' x q, l = l' ++ [x] ∧ x.a = some q ∧ q.block = k)
theorem Gi.lt {w W : World} {b : Nat} {L : List Sc} {pre : List Sg} {ow : Bool} {v : Value} {l : List Sg} (h : Gi w b L pre ow v l W) : ∀ k, OG b ow v l k → k < W.heap.size := fun k hk => by
  rcases hk with rfl | rfl | hk | ⟨-, l', x, q, rfl, hq, rfl⟩
  · exact h.fx.lt
  · exact h.ox.lt
  · exact (h.row.lt hk).2
  · exact h.pl x (by simp) q hq
theorem Ko.grown {O : Nat → Prop} {W A B : World} {row : Option Nat} (h : Ko O W A) (hg : A.grownBy B row) (hr : ∀ r, row = some r → O r ∨ W.heap.size ≤ r) : Ko O W B := ⟨Nat.le_trans h.1 hg.size, fun k o hk hc hn => by
  have h9 := h.2 k o hk hc hn
  rw [hg.block k (Array.getElem?_eq_some_iff.1 h9).1 (fun e => by
    rcases hr k e.symm with h8 | h8
    · exact hn h8
    · have := (Array.getElem?_eq_some_iff.1 hk).1; omega)]
  exact h9⟩
theorem Ko.set {O : Nat → Prop} {W A : World} (h : Ko O W A) {β i : Nat} (hb : O β) (u : Value) : Ko O W (A.setCell ⟨β, i, none⟩ u) := ⟨by have := h.1; simpa using this, fun k o hk hc hn => by
  rw [heap_setCell_other _ _ _ _ (fun e => hn (by simp only [] at e; rw [e]; exact hb))]
  exact h.2 k o hk hc hn⟩
theorem Ko.below {O : Nat → Prop} {W A B : World} (h : Ko O W A) (hb : Below A.heap.size A B) : Ko O W B := h.trans ((Cz.below hb).ko O)
theorem Ko.refl (O : Nat → Prop) (W : World) : Ko O W W := (Cz.refl W).ko O

theorem app_ko {W m w6 : World} {b N g6 c6 vc : Nat} {va : Option Addr} {ow : Bool} {k : List Sg} {x : Sg} (h : Ko (OG b ow (.slice va N vc) k) W m) (hg : m.grownBy w6 (Value.slice va N vc).ownBlock) (hl : (Value.slice va N vc).ownBlock = some g6 ∨ g6 = m.heap.size) :
    Ko (OG b ow (.slice va N vc) k) W ((w6.setCell ⟨b + 1 + 1, 0, none⟩ (.slice (some ⟨g6, 0, none⟩) (N + 1) c6)).setCell ⟨b + 1 + 1 + 1, 0, none⟩ (.bool false)) ∧ ∀ r, OG b false (.slice (some ⟨g6, 0, none⟩) (N + 1) c6) (k ++ [x]) r → OG b ow (.slice va N vc) k r ∨ W.heap.size ≤ r := by
  refine ⟨((h.grown hg (fun r hr => .inl (.inr (.inr (.inl hr))))).set (.inl rfl) _).set (.inr (.inl rfl)) _, fun r hr => ?_⟩
  rcases hr with hr | hr | hr | ⟨hr, -⟩
  · exact .inl (.inl hr)
  · exact .inl (.inr (.inl hr))
  · have e : g6 = r := Option.some.inj hr
    subst e
    rcases hl with hl | hl
    · exact .inl (.inr (.inr (.inl hl)))
    · exact .inr (by have := h.1; omega)
  · cases hr

theorem merge_ko {W u u1 : World} {b g n c M : Nat} {O : Nat → Prop} {k : List Sg} {y z : Sg} (h : Ko O W u) (h2 : O (b + 1 + 1)) (h3 : O (b + 1 + 1 + 1)) (hOg : O g) (hy : ∀ r, (Value.slice y.a y.ct.ws.length y.c).ownBlock = some r → O r ∨ W.heap.size ≤ r)
    (hr : OS5 u1 b (.slice (some ⟨g, 0, none⟩) n c) (k ++ [y])) (hM : k.length = M)
    (hg : u.grownBy u1 (Value.slice y.a y.ct.ws.length y.c).ownBlock) (hl : ∀ j, (Value.slice z.a z.ct.ws.length z.c).ownBlock = some j → (Value.slice y.a y.ct.ws.length y.c).ownBlock = some j ∨ u.heap.size ≤ j) :
    Ko O W ((put5 u1 g (M * 5) z).setCell ⟨b + 1 + 1 + 1, 0, none⟩ (.bool true)) ∧ ∀ r, OG b true (.slice (some ⟨g, 0, none⟩) n c) (k ++ [z]) r → O r ∨ W.heap.size ≤ r := by
  refine ⟨((h.grown hg hy).grown (os5_put5 z hr hM).2 (fun r hr => .inl (by cases hr; exact hOg))).set h3 _, fun r hr => ?_⟩
  rcases hr with hr | hr | hr | ⟨-, l', x, q, he, hq, rfl⟩
  · exact .inl (by rw [hr]; exact h2)
  · exact .inl (by rw [hr]; exact h3)
  · have e : g = r := Option.some.inj hr
    exact .inl (by rw [← e]; exact hOg)
  · obtain ⟨-, e2⟩ := List.append_inj' he rfl
    cases e2
    rcases hl q.block (by rw [hq]; rfl) with h9 | h9
    · exact hy _ h9
    · exact .inr (Nat.le_trans h.1 h9)

end Go.Proofs.YtckidgpopbpagaaGreatDoor
