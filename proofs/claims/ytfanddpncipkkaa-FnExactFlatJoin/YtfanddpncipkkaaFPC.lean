/- What is gathered out of an iterator's segments: what holds between two rounds. -/
import Derived.Test.YtfanddpncipkkaaRFW
import Derived.Test.YtfanddpncipkkaaFPE
import Derived.Test.YtfanddpncipkkaaZFL
namespace Go.Proofs.Ytfanddpncipkkaa
set_option linter.unusedVariables false
set_option linter.unusedSimpArgs false
open Go.RowKit

/-- A segment as it is handed over. -/
def sgV (x : Sg) : Value := .agg #[.int .i64 x.ct.v, .int .i64 x.ct.lo, .int .i64 x.ct.wd, .int .i64 x.ct.bw, .slice x.a x.ct.ws.length x.c]
/-- It is ready: those that came are as told, and its words can be read; they lie ahead of B, or in a block laid since. -/
def RdyS (B : Nat) (L : List Sc) (T : Nat) (pre : List Sg) (x : Sg) (W : World) : Prop := (pre ++ [x]).map Sg.ct <+: L ∧ Rd W x.a x.ct.ws ∧ (x.a = none → x.c = 0) ∧ ∀ p, x.a = some p → (p.block < B ∨ T ≤ p.block) ∧ p.block < W.heap.size
abbrev SeqS (n : Nat) (g : Nat) (lb : Array Value) (L : List Sc) (B : Nat) (w : World) : Prop :=
  SeqW Fence.wide n Try.prog g lb (fun x => #[sgV x]) (Below B) (RdyS B L) (fun xs => xs.map Sg.ct = L) (fun pre => pre.map Sg.ct <+: L) w

theorem cz_bz {W W' : World} {b : Nat} {cs : Array Value} {t : TypeId} (h : Bz W b cs t) (hc : Cz W W') : Bz W' b cs t := hc.2 b _ h rfl
theorem cz_rd {W W' : World} {a : Option Addr} {xs : List Nat} (h : Rd W a xs) (hc : Cz W W') : Rd W' a xs := by
  obtain ⟨h1, h2, h3⟩ := h
  refine ⟨h1, h2, ?_⟩
  rcases h3 with h3 | ⟨b, o, rfl, hcell⟩
  · exact .inl h3
  · refine .inr ⟨b, o, rfl, fun i hi => ?_⟩
    have h9 := hcell i hi
    have hl := block_lt_of_cell h9
    have hb : W'.heap[b]? = W.heap[b]? := by
      obtain ⟨ob, hob⟩ : ∃ ob, W.heap[b]? = some ob := ⟨_, Array.getElem?_eq_getElem hl⟩
      rw [hob]
      refine hc.2 b ob hob ?_
      cases ob with
      | cells cs t fr => rfl
      | _ => simp [World.cell?, hob] at h9
    rw [World.cell?_of_block (a := ⟨b, o + i, none⟩) hb]
    exact h9
theorem cz_own {W W' : World} {B n : Nat} {e : TypeId} {s : Nat} {v : Value} {xs : List Value} (h : W.ownsRow B e s v n xs) (hc : Cz W W') : W'.ownsRow B e s v n xs := by
  obtain ⟨h1, h2⟩ := h
  refine ⟨h1, ?_⟩
  rcases h2 with h2 | ⟨g, cap, cur, rfl, hg, hh, r⟩
  · exact .inl h2
  · exact .inr ⟨g, cap, cur, rfl, hg, hc.2 g _ hh rfl, r⟩
theorem cz_grown {W W' : World} {row : Option Nat} (hg : W.grownBy W' row) (hr : ∀ r, row = some r → ∃ o : Obj, W.heap[r]? = some o ∧ o.isCells = false) : Cz W W' :=
  ⟨hg.size, fun k o hk hc => (hg.block k (Array.getElem?_eq_some_iff.1 hk).1 (fun e => by
    obtain ⟨o', ho', hn⟩ := hr k e.symm
    rw [hk] at ho'
    cases ho'
    rw [hc] at hn
    cases hn)).trans hk⟩

theorem mid_get {F : List Sc} {a s : Sc} {i : Nat} (h : (F ++ [a])[i]? = some s) : (i < F.length ∧ F[i]? = some s) ∨ (i = F.length ∧ s = a) := by
  rcases Nat.lt_trichotomy i F.length with h1 | h1 | h1
  · rw [List.getElem?_append_left h1] at h
    exact .inl ⟨h1, h⟩
  · subst h1
    simp at h
    exact .inr ⟨rfl, h.symm⟩
  · rw [List.getElem?_eq_none (by simp; omega)] at h
    cases h
theorem Nf.nil : Nf [] := ⟨by simp, by simp⟩
theorem Nf.one {b : Sc} (hb : okS b) : Nf [b] := ⟨by simpa using hb, fun i s t h1 h2 => by simp at h2⟩
theorem Nf.snoc {F : List Sc} {a b : Sc} (h : Nf (F ++ [a])) (hb : okS b) (hn : oneB a b = false) : Nf (F ++ [a] ++ [b]) := by
  refine ⟨fun s hs => ?_, fun i s t h1 h2 => ?_⟩
  · rcases List.mem_append.1 hs with hs | hs
    · exact h.ok s hs
    · rw [List.mem_singleton.1 hs]; exact hb
  · rcases mid_get h2 with ⟨h3, h4⟩ | ⟨h3, rfl⟩
    · rcases mid_get h1 with ⟨h5, h6⟩ | ⟨h5, h6⟩
      · exact h.ap i s t h6 h4
      · omega
    · rcases mid_get h1 with ⟨h5, h6⟩ | ⟨h5, h6⟩
      · have : i = F.length := by simp at h3; omega
        subst this
        simp at h6
        subst h6
        exact hn
      · omega
theorem Nf.last {F : List Sc} {a b : Sc} (h : Nf (F ++ [a])) (hb : okS (oneS a b)) : Nf (F ++ [oneS a b]) := by
  refine ⟨fun s hs => ?_, fun i s t h1 h2 => ?_⟩
  · rcases List.mem_append.1 hs with hs | hs
    · exact h.ok s (by simp [hs])
    · rw [List.mem_singleton.1 hs]; exact hb
  · rcases mid_get h2 with ⟨h3, h4⟩ | ⟨h3, rfl⟩
    · rcases mid_get h1 with ⟨h5, h6⟩ | ⟨h5, h6⟩
      · exact h.ap i s t (by rw [List.getElem?_append_left h5]; exact h6) (by rw [List.getElem?_append_left h3]; exact h4)
      · omega
    · rcases mid_get h1 with ⟨h5, h6⟩ | ⟨h5, h6⟩
      · have h9 := h.ap i s a (by rw [List.getElem?_append_left h5]; exact h6) (by rw [h3]; simp)
        rcases oneS_on (a := a) (b := b) (c := s) with h8 | h8
        · rw [h8]; exact h9
        · rw [h8.2]; exact h9
      · omega
theorem formP_one {F : List Sc} {a b : Sc} (ha : okS a) (hb : okS b) (ho : oneB a b = true) : formP (F ++ [oneS a b]) = formP (F ++ [a]) ++ formP [b] := by
  rw [formP_app, formP_app]
  have h1 : formP [oneS a b] = segPs (oneS a b) (oneS a b).wd.toNat := by simp [formP]
  have h2 : formP [a] = segPs a a.wd.toNat := by simp [formP]
  have h3 : formP [b] = segPs b b.wd.toNat := by simp [formP]
  rw [h1, h2, h3, oneS_P ha hb ho, List.append_assoc]
/-- The last one and the next are no wider than all. -/
theorem two_wide {L : List Sc} {F pre : List Sc} {a b : Sc} (hL : ∀ s ∈ L, okS s) (hs : sumS L ≤ 4096) (hF : ∀ s ∈ F ++ [a], okS s) (hp : formP (F ++ [a]) = formP pre) (hpre : pre ++ [b] <+: L) : a.wd + b.wd ≤ 4096 := by
  obtain ⟨r, hr⟩ := hpre
  have hb : okS b := hL b (by rw [← hr]; simp)
  have h1 := formP_len (F ++ [a]) (fun s hs => by have := (hF s hs).1; omega)
  have h2 := formP_len L (fun s hs => by have := (hL s hs).1; omega)
  have h3 : formP L = formP pre ++ formP [b] ++ formP r := by rw [← hr, formP_app, formP_app]
  have h4 : (formP [b]).length = b.wd.toNat := by simp [formP, segPs_len]
  rw [h3, ← hp] at h2
  simp only [List.length_append] at h2
  rw [sumS_append] at h1
  have h5 : sumS [a] = a.wd := by simp [sumS]
  have h6 : 0 ≤ sumS F := by
    have := formP_len F (fun s hs => by have := (hF s (by simp [hs])).1; omega)
    omega
  have := hb.1
  omega

/-- What holds between two rounds: the boxes, the segments so far, and whether the last one's words are of gather's making. -/
structure Gi (w : World) (b : Nat) (L : List Sc) (pre : List Sg) (ow : Bool) (v : Value) (l : List Sg) (W : World) : Prop where
  r0 : Bz W b #[.slice none 0 0] 26
  r1 : Bz W (b + 1) #[.bool false] 4
  fx : Bz W (b + 1 + 1) #[v] 26
  ox : Bz W (b + 1 + 1 + 1) #[.bool ow] 4
  row : OS5 W b v l
  nf : Nf (l.map Sg.ct)
  bits : formP (l.map Sg.ct) = formP (pre.map Sg.ct)
  lo : ∀ x ∈ l, 0 ≤ x.ct.lo ∧ x.ct.lo ≤ 4096
  len : l.length ≤ 2000
  rd : ∀ x ∈ l, Rd W x.a x.ct.ws
  no : ∀ x ∈ l, x.a = none → x.c = 0
  pl : ∀ x ∈ l, ∀ p, x.a = some p → p.block < W.heap.size
  own : ow = true → ∃ (l' : List Sg) (x : Sg), l = l' ++ [x] ∧ OwW W b (.slice x.a x.ct.ws.length x.c) x.ct.ws ∧ ∀ y ∈ l', ∀ p q, x.a = some p → y.a = some q → p.block ≠ q.block
  ra : ∀ x ∈ l, ∀ p, x.a = some p → v.ownBlock ≠ some p.block
  pre : pre.map Sg.ct <+: L
  bel : Below b w W
theorem Gi.cz {w : World} {b : Nat} {L : List Sc} {pre : List Sg} {ow : Bool} {v : Value} {l : List Sg} {W W' : World} (h : Gi w b L pre ow v l W) (hc : Cz W W') (hb : Below b w W') : Gi w b L pre ow v l W' :=
  ⟨cz_bz h.r0 hc, cz_bz h.r1 hc, cz_bz h.fx hc, cz_bz h.ox hc, cz_own h.row hc, h.nf, h.bits, h.lo, h.len, fun x hx => cz_rd (h.rd x hx) hc, h.no, fun x hx p hp => Nat.lt_of_lt_of_le (h.pl x hx p hp) hc.1, fun e => by
    obtain ⟨l', x, h1, h2, h3⟩ := h.own e
    exact ⟨l', x, h1, cz_own h2 hc, h3⟩, h.ra, h.pre, hb⟩
theorem Gi.later {w : World} {b : Nat} {L : List Sc} {pre : List Sg} {ow : Bool} {v : Value} {l : List Sg} {W W' : World} (h : Gi w b L pre ow v l W) (hb : Below W.heap.size W W') (hbw : b ≤ W.heap.size) : Gi w b L pre ow v l W' :=
  h.cz (Cz.below hb) (h.bel.trans (hb.mono hbw))

end Go.Proofs.Ytfanddpncipkkaa
