/- Several texts in one. -/
import Derived.Test.YtfanddpncipkkaaFH
import Derived.Test.YtfanddpncipkkaaK
import Derived.Test.YtfanddpncipkkaaI

/- The form of told bits, plainly; rows of told bits that are read. -/
namespace Go.Proofs.Ytfanddpncipkkaa
set_option linter.unusedVariables false
set_option linter.unusedSimpArgs false
open Go.RowKit

abbrev Ib := Int × Int
/-- How many constants stand in a row. -/
def runC : List Ib → Nat
  | [] => 0
  | p :: t => if p.1 < 0 then runC t + 1 else 0
/-- How many bits go on behind p. -/
def runV : Ib → List Ib → Nat
  | _, [] => 0
  | p, q :: t => if q.1 = p.1 ∧ q.2 = p.2 + 1 then runV q t + 1 else 0
def segC (l : List Ib) : Sc := ⟨-1, 0, l.length, l.length, pack (l.map fun p => p.2.toNat)⟩
def segV (p : Ib) (n : Nat) : Sc := ⟨p.1, p.2, n, 0, []⟩
def formF : Nat → List Ib → List Sc
  | 0, _ => []
  | _ + 1, [] => []
  | n + 1, p :: t => if p.1 < 0 then segC ((p :: t).take (runC t + 1)) :: formF n (t.drop (runC t)) else segV p (runV p t + 1) :: formF n (t.drop (runV p t))
/-- The form of told bits. -/
def formB (l : List Ib) : List Sc := formF l.length l

theorem runC_le (l : List Ib) : runC l ≤ l.length := by
  induction l with
  | nil => simp [runC]
  | cons p t ih => simp only [runC]; split <;> simp <;> omega
theorem runV_le : ∀ (l : List Ib) (p : Ib), runV p l ≤ l.length
  | [], p => by simp [runV]
  | q :: t, p => by
    have := runV_le t q
    simp only [runV]
    split <;> simp <;> omega
theorem formF_both : ∀ (n m : Nat) (l : List Ib), l.length ≤ n → l.length ≤ m → formF n l = formF m l
  | 0, m, l, h, _ => by
    have : l = [] := List.eq_nil_of_length_eq_zero (by omega)
    subst this
    cases m <;> rfl
  | n + 1, m, [], _, _ => by cases m <;> rfl
  | n + 1, 0, p :: t, _, h => by simp at h
  | n + 1, m + 1, p :: t, h, h2 => by
    have h1 : t.length ≤ n := by simpa using h
    have h3 : t.length ≤ m := by simpa using h2
    simp only [formF]
    split
    · rw [formF_both n m (t.drop (runC t)) (by simp; omega) (by simp; omega)]
    · rw [formF_both n m (t.drop (runV p t)) (by simp; omega) (by simp; omega)]
theorem formF_more (n : Nat) (l : List Ib) (h : l.length ≤ n) : formF n l = formF l.length l := formF_both n l.length l h (Nat.le_refl _)
theorem formB_nil : formB [] = [] := rfl
theorem formB_cons (p : Ib) (t : List Ib) : formB (p :: t) = if p.1 < 0 then segC ((p :: t).take (runC t + 1)) :: formB (t.drop (runC t)) else segV p (runV p t + 1) :: formB (t.drop (runV p t)) := by
  unfold formB
  simp only [formF, List.length_cons]
  split
  · rw [formF_more t.length (t.drop (runC t)) (by simp)]
  · rw [formF_more t.length (t.drop (runV p t)) (by simp)]

/-- A step from place i on: constants. -/
theorem formB_C {ps : List Ib} {i k : Nat} {p : Ib} (hp : ps[i]? = some p) (hv : p.1 < 0) (hk : k = i + 1 + runC (ps.drop (i + 1))) : formB (ps.drop i) = segC ((ps.drop i).take (k - i)) :: formB (ps.drop k) := by
  have hil := (List.getElem?_eq_some_iff.1 hp).1
  have e : ps.drop i = p :: ps.drop (i + 1) := by
    rw [List.drop_eq_getElem_cons hil]
    rw [(List.getElem?_eq_some_iff.1 hp).2]
  rw [e, formB_cons, if_pos hv, List.drop_drop]
  subst hk
  rw [show i + 1 + runC (ps.drop (i + 1)) - i = runC (ps.drop (i + 1)) + 1 by omega]
/-- .. and bits of a variable. -/
theorem formB_V {ps : List Ib} {i k : Nat} {p : Ib} (hp : ps[i]? = some p) (hv : ¬ p.1 < 0) (hk : k = i + 1 + runV p (ps.drop (i + 1))) : formB (ps.drop i) = segV p (k - i) :: formB (ps.drop k) := by
  have hil := (List.getElem?_eq_some_iff.1 hp).1
  have e : ps.drop i = p :: ps.drop (i + 1) := by
    rw [List.drop_eq_getElem_cons hil]
    rw [(List.getElem?_eq_some_iff.1 hp).2]
  rw [e, formB_cons, if_neg hv, List.drop_drop]
  subst hk
  rw [show i + 1 + runV p (ps.drop (i + 1)) - i = runV p (ps.drop (i + 1)) + 1 by omega]
theorem runC_drop {ps : List Ib} {k : Nat} {q : Ib} (hq : ps[k]? = some q) : runC (ps.drop k) = if q.1 < 0 then runC (ps.drop (k + 1)) + 1 else 0 := by
  have hil := (List.getElem?_eq_some_iff.1 hq).1
  rw [List.drop_eq_getElem_cons hil, (List.getElem?_eq_some_iff.1 hq).2]
  rfl
theorem runV_drop {ps : List Ib} {k : Nat} {p q : Ib} (hq : ps[k]? = some q) : runV p (ps.drop k) = if q.1 = p.1 ∧ q.2 = p.2 + 1 then runV q (ps.drop (k + 1)) + 1 else 0 := by
  have hil := (List.getElem?_eq_some_iff.1 hq).1
  rw [List.drop_eq_getElem_cons hil, (List.getElem?_eq_some_iff.1 hq).2]
  rfl

/-- A slice of told bits, wherever it lies. -/
def RdP (w : World) (a : Option Addr) (ps : List Ib) : Prop := ps.length ≤ 1048576 ∧ (ps = [] ∨ ∃ b o, a = some ⟨b, o, none⟩ ∧ ∀ i p, ps[i]? = some p → w.cell? ⟨b, o + i * 2, none⟩ = some (.int .i64 p.1) ∧ w.cell? ⟨b, o + i * 2 + 1, none⟩ = some (.int .i64 p.2))
theorem RdP.later {w w' : World} {a : Option Addr} {ps : List Ib} (h : RdP w a ps) (hb : Below w.heap.size w w') : RdP w' a ps := by
  refine ⟨h.1, ?_⟩
  rcases h.2 with h0 | ⟨b, o, e, hc⟩
  · exact .inl h0
  · refine .inr ⟨b, o, e, fun i p hi => ?_⟩
    obtain ⟨h1, h2⟩ := hc i p hi
    exact ⟨by rw [hb.cell (p := ⟨b, o + i * 2, none⟩) (block_lt_of_cell h1)]; exact h1, by rw [hb.cell (p := ⟨b, o + i * 2 + 1, none⟩) (block_lt_of_cell h2)]; exact h2⟩
theorem OL5.rdp {w : World} {B : Nat} {v : Value} {l : List Ib} (h : OL5 w B v l) (hl : l.length ≤ 1048576) : ∃ a c, v = .slice a l.length c ∧ RdP w a l := by
  by_cases e : l = []
  · subst e
    obtain ⟨a, c, rfl⟩ := h.form
    exact ⟨a, c, rfl, by simp, .inl rfl⟩
  · have h0 : 0 < l.length := List.length_pos_iff.2 e
    obtain ⟨g, c, rfl, -⟩ := h.at (List.getElem?_eq_getElem h0)
    refine ⟨_, c, rfl, hl, .inr ⟨g, 0, rfl, fun i x hi => ?_⟩⟩
    obtain ⟨g', c', e', h1, h2⟩ := h.at hi
    cases e'
    exact ⟨by rw [Nat.zero_add]; exact h1, by rw [Nat.zero_add]; exact h2⟩

end Go.Proofs.Ytfanddpncipkkaa

/- Forms that are gathered out of segments: maths. -/
namespace Go.Proofs.Ytfanddpncipkkaa
set_option linter.unusedVariables false
set_option linter.unusedSimpArgs false
open Go.RowKit

theorem cg2 {α β γ : Type} (f : α → β → γ) {a a' : α} {b b' : β} (h : a = a') (k : b = b') : f a b = f a' b' := by rw [h, k]
/-- A segment that is right by itself. -/
def okS (s : Sc) : Prop := 1 ≤ s.wd ∧ s.wd ≤ 4096 ∧ (∀ y ∈ s.ws, y < 18446744073709551616) ∧ (s.v = -1 ∧ s.lo = 0 ∧ s.bw = s.wd ∧ rightB s.bw s.ws = true ∨ 0 ≤ s.v ∧ s.bw = 0 ∧ s.ws = [])
/-- A form: no two neighbours could be one. -/
structure Nf (F : List Sc) : Prop where
  ok : ∀ s ∈ F, okS s
  ap : ∀ (i : Nat) (s t : Sc), F[i]? = some s → F[i + 1]? = some t → oneB s t = false
theorem Nf.tail {s : Sc} {t : List Sc} (h : Nf (s :: t)) : Nf t := ⟨fun x hx => h.ok x (List.mem_cons_of_mem _ hx), fun i a b ha hb => h.ap (i + 1) a b (by simpa using ha) (by simpa using hb)⟩

theorem formP_cons (s : Sc) (t : List Sc) : formP (s :: t) = segPs s s.wd.toNat ++ formP t := rfl
theorem formP_app (a b : List Sc) : formP (a ++ b) = formP a ++ formP b := by simp [formP]
theorem formP_nil : formP [] = [] := rfl

theorem runC_app {l r : List Ib} (h : ∀ p ∈ l, p.1 < 0) : runC (l ++ r) = l.length + runC r := by
  induction l with
  | nil => simp
  | cons p t ih =>
    rw [List.cons_append, runC, if_pos (h p (by simp)), ih (fun q hq => h q (by simp [hq]))]
    simp; omega
/-- Bits of a variable one behind the other. -/
def runL (v a : Int) (m : Nat) : List Ib := (List.range m).map fun (k : Nat) => ((v, a + (k : Int)) : Ib)
theorem runL_succ (v a : Int) (m : Nat) : runL v a (m + 1) = (v, a) :: runL v (a + 1) m := by
  unfold runL
  rw [List.range_succ_eq_map, List.map_cons, List.map_map]
  refine cg2 _ (by simp) (List.map_congr_left fun k _ => ?_)
  show ((v, a + ((k + 1 : Nat) : Int)) : Ib) = (v, a + 1 + (k : Int))
  rw [show a + ((k + 1 : Nat) : Int) = a + 1 + (k : Int) by omega]
theorem runV_app (v : Int) : ∀ (m : Nat) (a : Int) (r : List Ib), runV (v, a) (runL v (a + 1) m ++ r) = m + runV (v, a + (m : Int)) r
  | 0, a, r => by simp [runL]
  | m + 1, a, r => by
    rw [runL_succ, List.cons_append, runV, if_pos ⟨rfl, rfl⟩, runV_app v m (a + 1) r]
    rw [show a + 1 + (m : Int) = a + ((m + 1 : Nat) : Int) by omega]
    omega
theorem segPs_var {s : Sc} (h : 0 ≤ s.v) (m : Nat) : segPs s m = runL s.v s.lo m := by
  unfold segPs runL
  refine List.map_congr_left fun k _ => ?_
  simp [segP, show ¬ s.v < 0 by omega]
theorem segPs_cst {s : Sc} (h : s.v = -1) (m : Nat) : segPs s m = (List.range m).map fun k => (-1, (((tb s.ws k).toNat : Nat) : Int)) := by
  unfold segPs
  refine List.map_congr_left fun k _ => ?_
  simp [segP, h]
theorem bits_getD3 (xs : List Nat) (V i : Nat) (h : i < V) : (bitsTo xs V).getD i 0 = (tb xs i).toNat := by
  simp [bitsTo, List.getD, h]
theorem unpk {V : Nat} {xs : List Nat} (hok : rightB V xs = true) (hx : ∀ x ∈ xs, x < 18446744073709551616) : pack (bitsTo xs V) = xs := by
  have h := right_W hok
  refine (eq_pack (bitsTo_le xs V) (by rw [bitsTo_len]; omega) hx fun i hi => ?_).symm
  by_cases hi' : i < V
  · rw [bits_getD3 xs V i hi']
    cases tb xs i <;> rfl
  · rw [tb_out hok i (by omega)]
    simp [List.getD, List.getElem?_eq_none (show (bitsTo xs V).length ≤ i by rw [bitsTo_len]; omega)]

theorem cst_bits (ws : List Nat) (m : Nat) : ((List.range m).map fun k => ((-1, (((tb ws k).toNat : Nat) : Int)) : Ib)).map (fun p => p.2.toNat) = bitsTo ws m := by
  unfold bitsTo
  rw [List.map_map]
  refine List.map_congr_left fun k _ => ?_
  simp
theorem segPs_succ' (s : Sc) (m : Nat) : segPs s (m + 1) = segP s 0 :: (List.range m).map fun k => segP s (k + 1) := by
  unfold segPs
  rw [List.range_succ_eq_map, List.map_cons, List.map_map]
  rfl
/-- The first bit of a form. -/
theorem formP_head {u : Sc} {t : List Sc} (h : 1 ≤ u.wd) : ∃ r, formP (u :: t) = segP u 0 :: r := by
  obtain ⟨m, hm⟩ : ∃ m, u.wd.toNat = m + 1 := ⟨u.wd.toNat - 1, by omega⟩
  rw [formP_cons, hm, segPs_succ']
  exact ⟨_, rfl⟩
/-- A form is told by its bits. -/
theorem formB_nf : ∀ {F : List Sc}, Nf F → formB (formP F) = F
  | [], _ => rfl
  | s :: t, h => by
    have ih := formB_nf h.tail
    obtain ⟨h1, h2, h3, h4⟩ := h.ok s (by simp)
    obtain ⟨m, hm⟩ : ∃ m, s.wd.toNat = m + 1 := ⟨s.wd.toNat - 1, by omega⟩
    obtain ⟨v, lo, wd, bw, ws⟩ := s
    simp only [] at h1 h2 h3 h4 hm
    have hwd : wd = ((m + 1 : Nat) : Int) := by omega
    rw [formP_cons]
    simp only [hm]
    rcases h4 with ⟨hv, hl, hb, hr⟩ | ⟨hv, hb, hw⟩
    · subst hv hl hb
      have hn : runC (formP t) = 0 := by
        cases t with
        | nil => rfl
        | cons u r =>
          have hu := h.ap 0 _ u rfl rfl
          have hok := h.ok u (by simp)
          obtain ⟨r', hr'⟩ := formP_head (t := r) hok.1
          rw [hr', runC]
          simp only [oneB, Bool.and_eq_false_iff, decide_eq_false_iff_not, Bool.or_eq_false_iff] at hu
          have huv : 0 ≤ u.v := by
            rcases hok.2.2.2 with h9 | h9
            · rcases hu with hu | hu
              · exact absurd h9.1.symm hu
              · exact absurd trivial hu.1
            · exact h9.1
          rw [if_neg]
          simp [segP, show ¬ u.v < 0 by omega]
      have hc : ∀ q ∈ (List.range m).map (fun k => segP ⟨-1, 0, bw, bw, ws⟩ (k + 1)), q.1 < 0 := fun q hq => by
        obtain ⟨k, -, rfl⟩ := List.mem_map.1 hq
        simp [segP]
      have hlen : ((List.range m).map (fun k => segP ⟨-1, 0, bw, bw, ws⟩ (k + 1))).length = m := by simp
      have hsp : segPs ⟨-1, 0, bw, bw, ws⟩ (m + 1) = segP ⟨-1, 0, bw, bw, ws⟩ 0 :: (List.range m).map fun k => segP ⟨-1, 0, bw, bw, ws⟩ (k + 1) := segPs_succ' _ m
      rw [hsp, List.cons_append, formB_cons, if_pos (by simp [segP]), runC_app hc, hn, hlen]
      simp only [Nat.add_zero]
      rw [List.drop_left' hlen, ih]
      congr 1
      rw [← List.cons_append, ← hsp, List.take_left' (by rw [segPs_len])]
      unfold segC
      rw [segPs_len, segPs_cst rfl, cst_bits]
      have hr' : rightB ((m + 1 : Nat) : Int) ws = true := by rw [← hwd]; exact hr
      rw [unpk hr' h3, hwd]
    · subst hb hw
      have hn : runV (v, lo + (m : Int)) (formP t) = 0 := by
        cases t with
        | nil => rfl
        | cons u r =>
          have hu := h.ap 0 _ u rfl rfl
          have hok := h.ok u (by simp)
          obtain ⟨r', hr'⟩ := formP_head (t := r) hok.1
          rw [hr', runV]
          rw [if_neg]
          simp only [oneB, Bool.and_eq_false_iff, decide_eq_false_iff_not, Bool.or_eq_false_iff] at hu
          rcases hok.2.2.2 with h9 | h9
          · simp only [segP, h9.1]
            intro h8
            have := h8.1
            simp at this
            omega
          · simp only [segP, show ¬ u.v < 0 by omega, if_false]
            intro h8
            rcases hu with hu | hu
            · exact hu h8.1.symm
            · refine hu.2 ?_
              have := h8.2
              simp at this
              omega
      rw [segPs_var hv]
      simp only []
      rw [runL_succ, List.cons_append, formB_cons, if_neg (by simp; omega), runV_app, hn]
      simp only [Nat.add_zero]
      rw [List.drop_left' (by simp [runL]), ih]
      congr 1
      unfold segV
      simp only [hwd]

/-- More bits, no fewer segments. -/
theorem runC_more {l r : List Ib} (h : runC l < l.length) : runC (l ++ r) = runC l := by
  induction l with
  | nil => simp at h
  | cons p t ih =>
    rw [List.cons_append, runC, runC]
    split
    · rename_i hp
      rw [runC, if_pos hp] at h
      rw [ih (by simp at h; omega)]
    · rfl
theorem runV_more {r : List Ib} : ∀ {l : List Ib} {p : Ib}, runV p l < l.length → runV p (l ++ r) = runV p l
  | [], p, h => by simp at h
  | q :: t, p, h => by
    rw [List.cons_append, runV, runV]
    split
    · rename_i hp
      rw [runV, if_pos hp] at h
      rw [runV_more (by simp at h; omega)]
    · rfl
theorem formB_pos {p : Ib} {t : List Ib} : 1 ≤ (formB (p :: t)).length := by
  rw [formB_cons]
  split <;> simp
theorem formB_mono (r : List Ib) : ∀ (n : Nat) (l : List Ib), l.length ≤ n → (formB l).length ≤ (formB (l ++ r)).length
  | 0, l, h => by
    have : l = [] := List.eq_nil_of_length_eq_zero (by omega)
    subst this
    simp [formB_nil]
  | n + 1, [], h => by simp [formB_nil]
  | n + 1, p :: t, h => by
    simp at h
    rw [List.cons_append, formB_cons, formB_cons]
    have hc := runC_le t
    have hv := runV_le t p
    split
    · by_cases e : runC t < t.length
      · rw [runC_more e, List.drop_append_of_le_length (by omega)]
        have := formB_mono r n (t.drop (runC t)) (by simp; omega)
        simp
        exact this
      · rw [List.drop_eq_nil_of_le (show t.length ≤ runC t by omega)]
        simp [formB_nil]
    · by_cases e : runV p t < t.length
      · rw [runV_more e, List.drop_append_of_le_length (by omega)]
        have := formB_mono r n (t.drop (runV p t)) (by simp; omega)
        simp
        exact this
      · rw [List.drop_eq_nil_of_le (show t.length ≤ runV p t by omega)]
        simp [formB_nil]

theorem formB_tail (p : Ib) (t : List Ib) : (formB t).length ≤ (formB (p :: t)).length := by
  cases t with
  | nil => simp [formB_nil]
  | cons q r =>
    rw [formB_cons p]
    split
    · rw [runC]
      split
      · rename_i hq
        rw [formB_cons q, if_pos hq]
        simp
      · simp
    · rename_i hp
      rw [runV]
      split
      · rename_i hq
        rw [formB_cons q, if_neg (by rw [hq.1]; exact hp)]
        simp
      · simp
theorem formB_drop : ∀ (n : Nat) (l : List Ib), (formB (l.drop n)).length ≤ (formB l).length
  | 0, l => by simp
  | n + 1, [] => by simp
  | n + 1, p :: t => by
    rw [List.drop_succ_cons]
    exact Nat.le_trans (formB_drop n t) (formB_tail p t)
theorem formB_part (l : List Ib) (a b : Nat) : (formB ((l.drop a).take b)).length ≤ (formB l).length := by
  have h1 := formB_mono ((l.drop a).drop b) _ ((l.drop a).take b) (Nat.le_refl _)
  rw [List.take_append_drop] at h1
  exact Nat.le_trans h1 (formB_drop a l)

/-- Right segments are right by themselves. -/
theorem sgOk_okS {ds : List Dc} {s : Sc} (hd : dclR ds = true) (h : sgOk ds s = true) (hw : ∀ y ∈ s.ws, y < 18446744073709551616) : okS s := by
  obtain ⟨h1, h2⟩ := sgOk_wdt hd h
  refine ⟨h1, h2, hw, ?_⟩
  by_cases e : s.v = -1
  · obtain ⟨a, b, c⟩ := sgOk_cst h e
    exact .inl ⟨e, a, b.symm, c⟩
  · right
    obtain ⟨a, b, c, d, f⟩ := sgOk_vr h e
    refine ⟨a, ?_, ?_⟩
    · apply Classical.byContradiction
      intro hb
      rw [sgOk_out e (.inr (.inr (.inl hb)))] at h
      cases h
    · apply Classical.byContradiction
      intro hb
      rw [sgOk_out e (.inr (.inr (.inr (fun h9 => hb (List.eq_nil_of_length_eq_zero h9)))))] at h
      cases h
theorem flL_ap {ds : List Dc} : ∀ (fs : List Sc) (q : Option Sc), flL ds q fs = true → ∀ (i : Nat) (s t : Sc), fs[i]? = some s → fs[i + 1]? = some t → oneB s t = false
  | [], _, _ => by simp
  | [a], _, _ => by
    intro i s t h1 h2
    simp at h2
  | a :: b :: r, q, h => by
    intro i s t h1 h2
    have hb : flL ds (some a) (b :: r) = true := by
      cases q <;> simp only [flL, Bool.and_eq_true] at h <;> simp only [flL, Bool.and_eq_true] <;> simp_all
    match i with
    | 0 =>
      simp at h1 h2
      subst h1 h2
      simp only [flL, Bool.and_eq_true] at hb
      simp_all
    | i + 1 => exact flL_ap (b :: r) (some a) hb i s t (by simpa using h1) (by simpa using h2)
theorem Nf.of {ds : List Dc} {fs : List Sc} (h : flatR ds fs = true) (hw : ∀ s ∈ fs, ∀ y ∈ s.ws, y < 18446744073709551616) : Nf fs := by
  have h' := h
  rw [flatR_form] at h'
  simp only [Bool.and_eq_true] at h'
  obtain ⟨hall, -⟩ := formR_sum h'.1 h'.2
  simp only [flatR, Bool.and_eq_true] at h
  exact ⟨fun s hs => sgOk_okS h'.1 (hall s hs).1 (hw s hs), flL_ap fs none h.1.2⟩

/-- Two in one. -/
def oneS (a b : Sc) : Sc := if a.v = -1 then ⟨-1, 0, a.wd + b.wd, a.wd + b.wd, pack (bitsTo a.ws a.wd.toNat ++ bitsTo b.ws b.wd.toNat)⟩ else ⟨a.v, a.lo, a.wd + b.wd, 0, []⟩

theorem range_add_map {β : Type} (f : Nat → β) (a b : Nat) : (List.range (a + b)).map f = (List.range a).map f ++ (List.range b).map fun k => f (a + k) := by
  rw [List.range_add, List.map_append, List.map_map]
  rfl
theorem tb_join2 (xs ys : List Nat) (a b : Nat) (k : Nat) : tb (pack (bitsTo xs a ++ bitsTo ys b)) k = if k < a then tb xs k else (decide (k < a + b) && tb ys (k - a)) := by
  rw [tb_pack _ (fun x hx => by
    rcases List.mem_append.1 hx with h | h
    · exact bitsTo_le _ _ x h
    · exact bitsTo_le _ _ x h)]
  by_cases h : k < a
  · rw [if_pos h, List.getD, List.getElem?_append_left (by rw [bitsTo_len]; exact h)]
    have := bits_getD3 xs a k h
    simp only [List.getD] at this
    rw [this]
    cases tb xs k <;> rfl
  · rw [if_neg h, List.getD, List.getElem?_append_right (by rw [bitsTo_len]; omega), bitsTo_len]
    by_cases h2 : k < a + b
    · have := bits_getD3 ys b (k - a) (by omega)
      simp only [List.getD] at this
      rw [this]
      simp only [h2, decide_true, Bool.true_and]
      cases tb ys (k - a) <;> rfl
    · rw [List.getElem?_eq_none (by rw [bitsTo_len]; omega)]
      simp [h2]
theorem oneS_P {a b : Sc} (ha : okS a) (hb : okS b) (ho : oneB a b = true) : segPs (oneS a b) (oneS a b).wd.toNat = segPs a a.wd.toNat ++ segPs b b.wd.toNat := by
  have h1 := ha.1
  have h2 := hb.1
  simp only [oneB, Bool.and_eq_true, decide_eq_true_eq, Bool.or_eq_true] at ho
  unfold oneS
  by_cases e : a.v = -1
  · rw [if_pos e]
    simp only []
    have e2 : b.v = -1 := by rw [← ho.1]; exact e
    rw [segPs_cst rfl, segPs_cst e, segPs_cst e2, show (a.wd + b.wd).toNat = a.wd.toNat + b.wd.toNat by omega, range_add_map]
    refine cg2 _ (List.map_congr_left fun k hk => ?_) (List.map_congr_left fun k hk => ?_)
    · rw [tb_join2, if_pos (List.mem_range.1 hk)]
    · have := List.mem_range.1 hk
      rw [tb_join2, if_neg (by omega)]
      simp [show a.wd.toNat + k < a.wd.toNat + b.wd.toNat by omega]
  · rw [if_neg e]
    simp only []
    have hv : 0 ≤ a.v := by
      rcases ha.2.2.2 with h9 | h9
      · exact absurd h9.1 e
      · exact h9.1
    have e2 : a.lo + a.wd = b.lo := by
      rcases ho.2 with h9 | h9
      · exact absurd h9 e
      · exact h9
    rw [segPs_var (s := ⟨a.v, a.lo, a.wd + b.wd, 0, []⟩) hv, segPs_var hv, segPs_var (by rw [← ho.1]; exact hv), show (a.wd + b.wd).toNat = a.wd.toNat + b.wd.toNat by omega]
    unfold runL
    rw [range_add_map]
    refine cg2 _ rfl (List.map_congr_left fun k hk => ?_)
    simp only []
    rw [ho.1, ← e2]
    congr 1
    omega
theorem oneS_ok {a b : Sc} (ha : okS a) (hb : okS b) (hs : a.wd + b.wd ≤ 4096) : okS (oneS a b) := by
  have h1 := ha.1
  have h2 := hb.1
  unfold oneS
  split
  · refine ⟨by simp only []; omega, hs, fun y hy => pack_lt _ y hy, .inl ⟨rfl, rfl, rfl, ?_⟩⟩
    have := pack_right (bitsTo a.ws a.wd.toNat ++ bitsTo b.ws b.wd.toNat) (fun x hx => by
      rcases List.mem_append.1 hx with h | h
      · exact bitsTo_le _ _ x h
      · exact bitsTo_le _ _ x h) (by simp [bitsTo_len]; omega) (by simp [bitsTo_len]; omega)
    rw [List.length_append, bitsTo_len, bitsTo_len] at this
    simp only []
    rw [show a.wd + b.wd = ((a.wd.toNat + b.wd.toNat : Nat) : Int) by omega]
    exact this
  · rename_i e
    have hv : 0 ≤ a.v := by
      rcases ha.2.2.2 with h9 | h9
      · exact absurd h9.1 e
      · exact h9.1
    exact ⟨by simp only []; omega, hs, by simp, .inr ⟨hv, rfl, rfl⟩⟩
theorem oneS_on {a b c : Sc} : oneB c (oneS a b) = oneB c a ∨ (a.v = -1 ∧ oneB c (oneS a b) = oneB c a) := by
  left
  unfold oneB oneS
  split
  · rename_i e
    simp only [e]
    by_cases h : c.v = -1 <;> simp [h]
  · rfl

end Go.Proofs.Ytfanddpncipkkaa

/- Rows of segments of one's own. -/
namespace Go.Proofs.Ytfanddpncipkkaa
set_option linter.unusedVariables false
set_option linter.unusedSimpArgs false
open Go.RowKit

def sgc : List Sg → List Value
  | [] => []
  | x :: t => .int .i64 x.ct.v :: .int .i64 x.ct.lo :: .int .i64 x.ct.wd :: .int .i64 x.ct.bw :: .slice x.a x.ct.ws.length x.c :: sgc t
theorem sgc_len (l : List Sg) : (sgc l).length = l.length * 5 := by
  induction l with
  | nil => rfl
  | cons x t ih => simp [sgc, ih]; omega
theorem sgc_append (l m : List Sg) : sgc (l ++ m) = sgc l ++ sgc m := by
  induction l with
  | nil => rfl
  | cons x t ih => simp [sgc, ih]

theorem Try.infoSeg9 : (Try.prog.info? 47).map (fun i => (i.zero, i.size, i.bytes)) = some (some (.agg #[.int .i64 0, .int .i64 0, .int .i64 0, .int .i64 0, .slice none 0 0]), 5, 56) := by kernel_rfl

/-- An owned row of segments. -/
def OS5 (w : World) (B : Nat) (v : Value) (l : List Sg) : Prop := w.ownsRow B 47 5 v l.length (sgc l)

theorem OS5.later {w w' : World} {B : Nat} {v : Value} {l : List Sg} (h : OS5 w B v l) (hb : Below w.heap.size w w') : OS5 w' B v l := World.ownsRow.kept (row := none) h ⟨hb.os, hb.tape, hb.output, hb.size, fun k hk _ => hb.block k hk⟩ (by
  cases h' : v.ownBlock with
  | none => exact .inl rfl
  | some k => exact .inr (by simp))
theorem OS5.lt {w : World} {B : Nat} {v : Value} {l : List Sg} (h : OS5 w B v l) {b : Nat} (hb : v.ownBlock = some b) : B ≤ b ∧ b < w.heap.size := by
  rcases h.2 with ⟨rfl, -⟩ | ⟨g, cap, cur, rfl, hg, hh, -⟩
  · cases hb
  · cases hb
    exact ⟨hg, lt_of_block hh⟩
theorem OS5.typed {w : World} {B : Nat} {v : Value} {l : List Sg} (h : OS5 w B v l) {b : Nat} (hb : v.ownBlock = some b) : ∃ cur, w.heap[b]? = some (.cells cur 47 (0, 0)) := by
  rcases h.2 with ⟨rfl, -⟩ | ⟨g, cap, cur, rfl, hg, hh, -⟩
  · cases hb
  · cases hb
    exact ⟨cur, hh⟩
theorem OS5.nil (w : World) (B : Nat) : OS5 w B (.slice none 0 0) [] := ⟨rfl, .inl ⟨rfl, rfl⟩⟩
theorem OS5.move {w w' : World} {B : Nat} {v : Value} {l : List Sg} (h : OS5 w B v l) (hk : ∀ b, v.ownBlock = some b → w'.heap[b]? = w.heap[b]?) : OS5 w' B v l := by
  refine ⟨h.1, ?_⟩
  rcases h.2 with h0 | ⟨g, cap, cur, rfl, hg, hh, r⟩
  · exact .inl h0
  · exact .inr ⟨g, cap, cur, rfl, hg, (hk g rfl).trans hh, r⟩

theorem OS5.form {w : World} {B : Nat} {v : Value} {l : List Sg} (h : OS5 w B v l) : ∃ a c, v = .slice a l.length c := by
  rcases h.2 with ⟨e, h0⟩ | ⟨g, cap, cur, e, -⟩
  · exact ⟨none, 0, by rw [e, h0]⟩
  · exact ⟨_, _, e⟩

theorem OS5.empty (w : World) (B : Nat) (h : B ≤ w.heap.size) : OS5 (w.alloc (.cells #[] 47)) B (.slice (some ⟨w.heap.size, 0, Option.none⟩) 0 0) [] := World.ownsRow_made w #[] 0 h (Nat.zero_le _) (by simp)
/-- 'append(list, x)' at a step of a region that draws its order; and in a row of operations. -/
theorem step_appS5 (w : World) {ops : Array Oper} {o : Oper} {a : Act} {K : Act → World → Prop} {Q : Exit → Act → World → Prop} {E : Prop} (hgd : o.guard = none) (s x : Operand)
    (ho : o.op = .call { callee := .builtin .append, args := #[s, x], argTypes := #[26, 26] })
    (B : Nat) (v : Value) (l : List Sg) (y : Sg) (hs : a.eval s = v) (hown : OS5 w B v l) (gx c : Nat) (hx : a.eval x = .slice (some ⟨gx, 0, none⟩) 1 c)
    (h0 : w.cell? ⟨gx, 0, none⟩ = some (.int .i64 y.ct.v)) (h1 : w.cell? ⟨gx, 1, none⟩ = some (.int .i64 y.ct.lo)) (h2 : w.cell? ⟨gx, 2, none⟩ = some (.int .i64 y.ct.wd)) (h3 : w.cell? ⟨gx, 3, none⟩ = some (.int .i64 y.ct.bw)) (h4 : w.cell? ⟨gx, 4, none⟩ = some (.slice y.a y.ct.ws.length y.c)) (hl : l.length ≤ 1073741824) (hB : B ≤ w.heap.size)
    (h : ∀ g cap w', OS5 w' B (.slice (some ⟨g, 0, none⟩) (l.length + 1) cap) (l ++ [y]) → w.grownBy w' v.ownBlock → K (a.put o.dst (.slice (some ⟨g, 0, none⟩) (l.length + 1) cap)) w') :
    if Region.wanted o (yielded ops a.tmps) = true then Oper.wp Try.prog o a w K Q else E := by
  obtain ⟨i0, hi, hz0, hz1, hz2⟩ := info_parts Try.infoSeg9
  refine step_append_lies w hgd s x 26 ho B 47 i0 _ 5 56 Try.underlying26 hi hz0 hz1 hz2 rfl (by decide) v l.length (sgc l) hs hown ⟨gx, 0, none⟩ 1 c (sgc [y]) hx rfl ?_ ?_ (by decide) ?_ ?_ hB _ rfl ?_
  · intro j u hj
    rw [Addr.add_lit]
    match j, hj with
    | 0, hj => simp [sgc] at hj; subst hj; exact h0
    | 1, hj => simp [sgc] at hj; subst hj; exact h1
    | 2, hj => simp [sgc] at hj; subst hj; exact h2
    | 3, hj => simp [sgc] at hj; subst hj; exact h3
    | 4, hj => simp [sgc] at hj; subst hj; exact h4
    | j + 5, hj => simp [sgc] at hj
  · intro u hu
    simp [sgc] at hu
    rcases hu with rfl | rfl | rfl | rfl | rfl <;> rfl
  · unfold maxLen; omega
  · omega
  · intro g cap w' h1 h2 _ _
    refine h g cap w' ?_ h2
    unfold OS5
    rw [sgc_append, List.length_append]
    exact h1

theorem wpList_appS5 {w : World} {ops : Array Oper} {rest : List Oper} {o : Oper} {a : Act} {Q : Exit → Act → World → Prop} (hgd : o.guard = none) (s x : Operand)
    (ho : o.op = .call { callee := .builtin .append, args := #[s, x], argTypes := #[26, 26] })
    (B : Nat) (v : Value) (l : List Sg) (y : Sg) (hs : a.eval s = v) (hown : OS5 w B v l) (gx c : Nat) (hx : a.eval x = .slice (some ⟨gx, 0, none⟩) 1 c)
    (h0 : w.cell? ⟨gx, 0, none⟩ = some (.int .i64 y.ct.v)) (h1 : w.cell? ⟨gx, 1, none⟩ = some (.int .i64 y.ct.lo)) (h2 : w.cell? ⟨gx, 2, none⟩ = some (.int .i64 y.ct.wd)) (h3 : w.cell? ⟨gx, 3, none⟩ = some (.int .i64 y.ct.bw)) (h4 : w.cell? ⟨gx, 4, none⟩ = some (.slice y.a y.ct.ws.length y.c)) (hl : l.length ≤ 1073741824) (hB : B ≤ w.heap.size)
    (h : ∀ g cap w', OS5 w' B (.slice (some ⟨g, 0, none⟩) (l.length + 1) cap) (l ++ [y]) → w.grownBy w' v.ownBlock → wpList Try.prog ops Q rest (a.put o.dst (.slice (some ⟨g, 0, none⟩) (l.length + 1) cap)) w') : wpList Try.prog ops Q (o :: rest) a w := by
  obtain ⟨i0, hi, hz0, hz1, hz2⟩ := info_parts Try.infoSeg9
  refine wpList_append_lies w hgd s x 26 ho B 47 i0 _ 5 56 Try.underlying26 hi hz0 hz1 hz2 rfl (by decide) v l.length (sgc l) hs hown ⟨gx, 0, none⟩ 1 c (sgc [y]) hx rfl ?_ ?_ (by decide) ?_ ?_ hB _ rfl ?_
  · intro j u hj
    rw [Addr.add_lit]
    match j, hj with
    | 0, hj => simp [sgc] at hj; subst hj; exact h0
    | 1, hj => simp [sgc] at hj; subst hj; exact h1
    | 2, hj => simp [sgc] at hj; subst hj; exact h2
    | 3, hj => simp [sgc] at hj; subst hj; exact h3
    | 4, hj => simp [sgc] at hj; subst hj; exact h4
    | j + 5, hj => simp [sgc] at hj
  · intro u hu
    simp [sgc] at hu
    rcases hu with rfl | rfl | rfl | rfl | rfl <;> rfl
  · unfold maxLen; omega
  · omega
  · intro g cap w' h1 h2 _ _
    refine h g cap w' ?_ h2
    unfold OS5
    rw [sgc_append, List.length_append]
    exact h1

end Go.Proofs.Ytfanddpncipkkaa

/- The form of told bits: the given l5Form. -/
namespace Go.Proofs.Ytfanddpncipkkaa
set_option linter.unusedVariables false
set_option linter.unusedSimpArgs false
open Go.RowKit

theorem take_step {ps : List Ib} {i k : Nat} {q : Ib} (hik : i ≤ k) (hq : ps[k]? = some q) : (ps.drop i).take (k + 1 - i) = (ps.drop i).take (k - i) ++ [q] := by
  rw [show k + 1 - i = (k - i) + 1 by omega, List.take_add_one, List.getElem?_drop, show i + (k - i) = k by omega, hq]
  rfl

/-- Segments of one's own, their words too. -/
def Ss (w : World) (B : Nat) (v : Value) (l : List Sg) : Prop := OS5 w B v l ∧ ∀ x ∈ l, Nw w B x.a x.ct.ws
theorem Ss.later {w w' : World} {B : Nat} {v : Value} {l : List Sg} (h : Ss w B v l) (hb : Below w.heap.size w w') : Ss w' B v l := ⟨h.1.later hb, fun x hx => (h.2 x hx).later hb⟩

end Go.Proofs.Ytfanddpncipkkaa
