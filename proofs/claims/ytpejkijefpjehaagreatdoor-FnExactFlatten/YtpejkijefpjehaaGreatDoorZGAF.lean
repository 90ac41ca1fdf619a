/- Several texts in one. -/
import Derived.Test.YtpejkijefpjehaaGreatDoorZGAD
import Derived.Test.YtpejkijefpjehaaGreatDoorZGAE
import Derived.Deep.AppendLies
import Derived.Test.YtpejkijefpjehaaGreatDoorZGAB
import Derived.Test.YtpejkijefpjehaaGreatDoorZGAH
import Derived.Test.YtpejkijefpjehaaGreatDoorZGAC
import Derived.Handy

/- Rows of bits of a form, of one's own. -/
namespace Go.Proofs.YtpejkijefpjehaaGreatDoor
set_option linter.unusedVariables false
set_option linter.unusedSimpArgs false
open Go.RowKit

def ibc : List (Int × Int) → List Value
  | [] => []
  | x :: t => .int .i64 x.1 :: .int .i64 x.2 :: ibc t
theorem ibc_len (l : List (Int × Int)) : (ibc l).length = l.length * 2 := by
  induction l with
  | nil => rfl
  | cons x t ih => simp [ibc, ih]; omega
theorem ibc_append (l m : List (Int × Int)) : ibc (l ++ m) = ibc l ++ ibc m := by
  induction l with
  | nil => rfl
  | cons x t ih => simp [ibc, ih]
theorem ibc_get : ∀ {l : List (Int × Int)} {i : Nat} {x : Int × Int}, l[i]? = some x → (ibc l)[i * 2]? = some (.int .i64 x.1) ∧ (ibc l)[i * 2 + 1]? = some (.int .i64 x.2)
  | y :: t, 0, x, h => by simp at h; subst h; simp [ibc]
  | y :: t, i + 1, x, h => by
    have := ibc_get (l := t) (i := i) (x := x) (by simpa using h)
    rw [show (i + 1) * 2 = i * 2 + 1 + 1 by omega]
    simpa [ibc] using this

/-- An owned row of words. -/
def OL5 (w : World) (B : Nat) (v : Value) (l : List (Int × Int)) : Prop := w.ownsRow B 116 2 v l.length (ibc l)

theorem OL5.later {w w' : World} {B : Nat} {v : Value} {l : List (Int × Int)} (h : OL5 w B v l) (hb : Below w.heap.size w w') : OL5 w' B v l := World.ownsRow.kept (row := none) h ⟨hb.os, hb.tape, hb.output, hb.size, fun k hk _ => hb.block k hk⟩ (by
  cases h' : v.ownBlock with
  | none => exact .inl rfl
  | some k => exact .inr (by simp))
theorem OL5.lt {w : World} {B : Nat} {v : Value} {l : List (Int × Int)} (h : OL5 w B v l) {b : Nat} (hb : v.ownBlock = some b) : B ≤ b ∧ b < w.heap.size := by
  rcases h.2 with ⟨rfl, -⟩ | ⟨g, cap, cur, rfl, hg, hh, -⟩
  · cases hb
  · cases hb
    exact ⟨hg, lt_of_block hh⟩
theorem OL5.typed {w : World} {B : Nat} {v : Value} {l : List (Int × Int)} (h : OL5 w B v l) {b : Nat} (hb : v.ownBlock = some b) : ∃ cur, w.heap[b]? = some (.cells cur 116 (0, 0)) := by
  rcases h.2 with ⟨rfl, -⟩ | ⟨g, cap, cur, rfl, hg, hh, -⟩
  · cases hb
  · cases hb
    exact ⟨cur, hh⟩
theorem OL5.nil (w : World) (B : Nat) : OL5 w B (.slice none 0 0) [] := ⟨rfl, .inl ⟨rfl, rfl⟩⟩
theorem OL5.move {w w' : World} {B : Nat} {v : Value} {l : List (Int × Int)} (h : OL5 w B v l) (hk : ∀ b, v.ownBlock = some b → w'.heap[b]? = w.heap[b]?) : OL5 w' B v l := by
  refine ⟨h.1, ?_⟩
  rcases h.2 with h0 | ⟨g, cap, cur, rfl, hg, hh, r⟩
  · exact .inl h0
  · exact .inr ⟨g, cap, cur, rfl, hg, (hk g rfl).trans hh, r⟩

theorem OL5.form {w : World} {B : Nat} {v : Value} {l : List (Int × Int)} (h : OL5 w B v l) : ∃ a c, v = .slice a l.length c := by
  rcases h.2 with ⟨e, h0⟩ | ⟨g, cap, cur, e, -⟩
  · exact ⟨none, 0, by rw [e, h0]⟩
  · exact ⟨_, _, e⟩

theorem OL5.empty (w : World) (B : Nat) (h : B ≤ w.heap.size) : OL5 (w.alloc (.cells #[] 116)) B (.slice (some ⟨w.heap.size, 0, Option.none⟩) 0 0) [] := World.ownsRow_made w #[] 0 h (Nat.zero_le _) (by simp)
theorem OL5.at {w : World} {B : Nat} {v : Value} {l : List (Int × Int)} (h : OL5 w B v l) {i : Nat} {x : Int × Int} (hi : l[i]? = some x) : ∃ g c, v = .slice (some ⟨g, 0, none⟩) l.length c ∧ w.cell? ⟨g, i * 2, none⟩ = some (.int .i64 x.1) ∧ w.cell? ⟨g, i * 2 + 1, none⟩ = some (.int .i64 x.2) := by
  have hil := (List.getElem?_eq_some_iff.1 hi).1
  rcases h.2 with ⟨-, h0⟩ | ⟨g, cap, cur, rfl, hg, hh, hc1, hc2, hsz, hcur⟩
  · omega
  · obtain ⟨e0, e1⟩ := ibc_get hi
    rw [← hcur] at e0 e1
    rw [List.getElem?_take, if_pos (by omega)] at e0 e1
    simp only [Array.getElem?_toList] at e0 e1
    exact ⟨g, cap, rfl, by rw [cell_of_row w g _ cur _ _ hh]; exact e0, by rw [cell_of_row w g _ cur _ _ hh]; exact e1⟩

theorem Tryz.infoL5 : (Tryz.prog.info? 116).map (fun i => (i.zero, i.size, i.bytes)) = some (some (.agg #[.int .i64 0, .int .i64 0]), 2, 16) := by kernel_rfl

/-- 'append(list, x)' at a step of a region that draws its order; and in a row of operations. -/
theorem step_appL5 (w : World) {ops : Array Oper} {o : Oper} {a : Act} {K : Act → World → Prop} {Q : Exit → Act → World → Prop} {E : Prop} (hgd : o.guard = none) (s x : Operand)
    (ho : o.op = .call { callee := .builtin .append, args := #[s, x], argTypes := #[70, 70] })
    (B : Nat) (v : Value) (l : List (Int × Int)) (y : Int × Int) (hs : a.eval s = v) (hown : OL5 w B v l) (gx c : Nat) (hx : a.eval x = .slice (some ⟨gx, 0, none⟩) 1 c)
    (h0 : w.cell? ⟨gx, 0, none⟩ = some (.int .i64 y.1)) (h1 : w.cell? ⟨gx, 1, none⟩ = some (.int .i64 y.2)) (hl : l.length ≤ 1073741824) (hB : B ≤ w.heap.size)
    (h : ∀ g cap w', OL5 w' B (.slice (some ⟨g, 0, none⟩) (l.length + 1) cap) (l ++ [y]) → w.grownBy w' v.ownBlock → K (a.put o.dst (.slice (some ⟨g, 0, none⟩) (l.length + 1) cap)) w') :
    if Region.wanted o (yielded ops a.tmps) = true then Oper.wp Tryz.prog o a w K Q else E := by
  obtain ⟨i0, hi, hz0, hz1, hz2⟩ := info_parts Tryz.infoL5
  refine step_append_lies w hgd s x 70 ho B 116 i0 _ 2 16 Tryz.underlying70 hi hz0 hz1 hz2 rfl (by decide) v l.length (ibc l) hs hown ⟨gx, 0, none⟩ 1 c (ibc [y]) hx rfl ?_ ?_ (by decide) ?_ ?_ hB _ rfl ?_
  · intro j u hj
    rw [Addr.add_lit]
    match j, hj with
    | 0, hj => simp [ibc] at hj; subst hj; exact h0
    | 1, hj => simp [ibc] at hj; subst hj; exact h1
    | j + 2, hj => simp [ibc] at hj
  · intro u hu
    simp [ibc] at hu
    rcases hu with rfl | rfl <;> rfl
  · unfold maxLen; omega
  · omega
  · intro g cap w' h1 h2 _ _
    refine h g cap w' ?_ h2
    unfold OL5
    rw [ibc_append, List.length_append]
    exact h1

theorem wpList_appL5 {w : World} {ops : Array Oper} {rest : List Oper} {o : Oper} {a : Act} {Q : Exit → Act → World → Prop} (hgd : o.guard = none) (s x : Operand)
    (ho : o.op = .call { callee := .builtin .append, args := #[s, x], argTypes := #[70, 70] })
    (B : Nat) (v : Value) (l : List (Int × Int)) (y : Int × Int) (hs : a.eval s = v) (hown : OL5 w B v l) (gx c : Nat) (hx : a.eval x = .slice (some ⟨gx, 0, none⟩) 1 c)
    (h0 : w.cell? ⟨gx, 0, none⟩ = some (.int .i64 y.1)) (h1 : w.cell? ⟨gx, 1, none⟩ = some (.int .i64 y.2)) (hl : l.length ≤ 1073741824) (hB : B ≤ w.heap.size)
    (h : ∀ g cap w', OL5 w' B (.slice (some ⟨g, 0, none⟩) (l.length + 1) cap) (l ++ [y]) → w.grownBy w' v.ownBlock → wpList Tryz.prog ops Q rest (a.put o.dst (.slice (some ⟨g, 0, none⟩) (l.length + 1) cap)) w') : wpList Tryz.prog ops Q (o :: rest) a w := by
  obtain ⟨i0, hi, hz0, hz1, hz2⟩ := info_parts Tryz.infoL5
  refine wpList_append_lies w hgd s x 70 ho B 116 i0 _ 2 16 Tryz.underlying70 hi hz0 hz1 hz2 rfl (by decide) v l.length (ibc l) hs hown ⟨gx, 0, none⟩ 1 c (ibc [y]) hx rfl ?_ ?_ (by decide) ?_ ?_ hB _ rfl ?_
  · intro j u hj
    rw [Addr.add_lit]
    match j, hj with
    | 0, hj => simp [ibc] at hj; subst hj; exact h0
    | 1, hj => simp [ibc] at hj; subst hj; exact h1
    | j + 2, hj => simp [ibc] at hj
  · intro u hu
    simp [ibc] at hu
    rcases hu with rfl | rfl <;> rfl
  · unfold maxLen; omega
  · omega
  · intro g cap w' h1 h2 _ _
    refine h g cap w' ?_ h2
    unfold OL5
    rw [ibc_append, List.length_append]
    exact h1

end Go.Proofs.YtpejkijefpjehaaGreatDoor

/- The bits of a form: the given l5Bits. -/
namespace Go.Proofs.YtpejkijefpjehaaGreatDoor
set_option linter.unusedVariables false
set_option linter.unusedSimpArgs false
open Go.RowKit

def segP (s : Sc) (k : Nat) : Int × Int := if s.v < 0 then (-1, (((tb s.ws k).toNat : Nat) : Int)) else (s.v, s.lo + (k : Int))
def segPs (s : Sc) (m : Nat) : List (Int × Int) := (List.range m).map (segP s)
def formP (fs : List Sc) : List (Int × Int) := fs.flatMap fun s => segPs s s.wd.toNat
theorem segPs_succ (s : Sc) (k : Nat) : segPs s (k + 1) = segPs s k ++ [segP s k] := by simp [segPs, List.range_succ]
theorem segPs_len (s : Sc) (k : Nat) : (segPs s k).length = k := by simp [segPs]
theorem formP_snoc (fs : List Sc) {k : Nat} {s : Sc} (h : fs[k]? = some s) : formP (fs.take (k + 1)) = formP (fs.take k) ++ segPs s s.wd.toNat := by
  rw [List.take_add_one, h]
  simp [formP]
theorem formP_len (fs : List Sc) (h : ∀ s ∈ fs, 0 ≤ s.wd) : ((formP fs).length : Int) = sumS fs := by
  induction fs with
  | nil => simp [formP, sumS]
  | cons s t ih =>
    have h1 := ih fun x hx => h x (List.mem_cons_of_mem _ hx)
    have h2 := h s (by simp)
    have e : formP (s :: t) = segPs s s.wd.toNat ++ formP t := by simp [formP]
    rw [e, List.length_append, segPs_len, sumS]
    simp
    omega

theorem segP_neg {v lo m bw : Int} {ws : List Nat} (k : Nat) (h : v < 0) : segP ⟨v, lo, m, bw, ws⟩ k = (-1, (((tb ws k).toNat : Nat) : Int)) := by simp [segP, h]
theorem segP_pos {v lo m bw : Int} {ws : List Nat} (k : Nat) (h : ¬ v < 0) : segP ⟨v, lo, m, bw, ws⟩ k = (v, lo + (k : Int)) := by simp [segP, h]


end Go.Proofs.YtpejkijefpjehaaGreatDoor

/- The form of told bits, plainly; rows of told bits that are read. -/
namespace Go.Proofs.YtpejkijefpjehaaGreatDoor
set_option linter.unusedVariables false
set_option linter.unusedSimpArgs false
open Go.RowKit

abbrev Ib := Int × Int
/-- How many constants stand in a row. -/
def runC : List Ib → Nat
  | [] => 0
  | p :: t => if p.1 < 0 then runC t + 1 else 0
/-- How many bits go on behind p. -/
def runV : Ib → List Ib → Nat
  | _, [] => 0
  | p, q :: t => if q.1 = p.1 ∧ q.2 = p.2 + 1 then runV q t + 1 else 0
def segC (l : List Ib) : Sc := ⟨-1, 0, l.length, l.length, pack (l.map fun p => p.2.toNat)⟩
def segV (p : Ib) (n : Nat) : Sc := ⟨p.1, p.2, n, 0, []⟩
def formF : Nat → List Ib → List Sc
  | 0, _ => []
  | _ + 1, [] => []
  | n + 1, p :: t => if p.1 < 0 then segC ((p :: t).take (runC t + 1)) :: formF n (t.drop (runC t)) else segV p (runV p t + 1) :: formF n (t.drop (runV p t))
/-- The form of told bits. -/
def formB (l : List Ib) : List Sc := formF l.length l

theorem runC_le (l : List Ib) : runC l ≤ l.length := by
  induction l with
  | nil => simp [runC]
  | cons p t ih => simp only [runC]; split <;> simp <;> omega
theorem runV_le : ∀ (l : List Ib) (p : Ib), runV p l ≤ l.length
  | [], p => by simp [runV]
  | q :: t, p => by
    have := runV_le t q
    simp only [runV]
    split <;> simp <;> omega
theorem formF_both : ∀ (n m : Nat) (l : List Ib), l.length ≤ n → l.length ≤ m → formF n l = formF m l
  | 0, m, l, h, _ => by
    have : l = [] := List.eq_nil_of_length_eq_zero (by omega)
    subst this
    cases m <;> rfl
  | n + 1, m, [], _, _ => by cases m <;> rfl
  | n + 1, 0, p :: t, _, h => by simp at h
  | n + 1, m + 1, p :: t, h, h2 => by
    have h1 : t.length ≤ n := by simpa using h
    have h3 : t.length ≤ m := by simpa using h2
    simp only [formF]
    split
    · rw [formF_both n m (t.drop (runC t)) (by simp; omega) (by simp; omega)]
    · rw [formF_both n m (t.drop (runV p t)) (by simp; omega) (by simp; omega)]
theorem formF_more (n : Nat) (l : List Ib) (h : l.length ≤ n) : formF n l = formF l.length l := formF_both n l.length l h (Nat.le_refl _)
theorem formB_nil : formB [] = [] := rfl
theorem formB_cons (p : Ib) (t : List Ib) : formB (p :: t) = if p.1 < 0 then segC ((p :: t).take (runC t + 1)) :: formB (t.drop (runC t)) else segV p (runV p t + 1) :: formB (t.drop (runV p t)) := by
  unfold formB
  simp only [formF, List.length_cons]
  split
  · rw [formF_more t.length (t.drop (runC t)) (by simp)]
  · rw [formF_more t.length (t.drop (runV p t)) (by simp)]

/-- A step from place i on: constants. -/
theorem formB_C {ps : List Ib} {i k : Nat} {p : Ib} (hp : ps[i]? = some p) (hv : p.1 < 0) (hk : k = i + 1 + runC (ps.drop (i + 1))) : formB (ps.drop i) = segC ((ps.drop i).take (k - i)) :: formB (ps.drop k) := by
  have hil := (List.getElem?_eq_some_iff.1 hp).1
  have e : ps.drop i = p :: ps.drop (i + 1) := by
    rw [List.drop_eq_getElem_cons hil]
    rw [(List.getElem?_eq_some_iff.1 hp).2]
  rw [e, formB_cons, if_pos hv, List.drop_drop]
  subst hk
  rw [show i + 1 + runC (ps.drop (i + 1)) - i = runC (ps.drop (i + 1)) + 1 by omega]
/-- .. and bits of a variable. -/
theorem formB_V {ps : List Ib} {i k : Nat} {p : Ib} (hp : ps[i]? = some p) (hv : ¬ p.1 < 0) (hk : k = i + 1 + runV p (ps.drop (i + 1))) : formB (ps.drop i) = segV p (k - i) :: formB (ps.drop k) := by
  have hil := (List.getElem?_eq_some_iff.1 hp).1
  have e : ps.drop i = p :: ps.drop (i + 1) := by
    rw [List.drop_eq_getElem_cons hil]
    rw [(List.getElem?_eq_some_iff.1 hp).2]
  rw [e, formB_cons, if_neg hv, List.drop_drop]
  subst hk
  rw [show i + 1 + runV p (ps.drop (i + 1)) - i = runV p (ps.drop (i + 1)) + 1 by omega]
theorem runC_drop {ps : List Ib} {k : Nat} {q : Ib} (hq : ps[k]? = some q) : runC (ps.drop k) = if q.1 < 0 then runC (ps.drop (k + 1)) + 1 else 0 := by
  have hil := (List.getElem?_eq_some_iff.1 hq).1
  rw [List.drop_eq_getElem_cons hil, (List.getElem?_eq_some_iff.1 hq).2]
  rfl
theorem runV_drop {ps : List Ib} {k : Nat} {p q : Ib} (hq : ps[k]? = some q) : runV p (ps.drop k) = if q.1 = p.1 ∧ q.2 = p.2 + 1 then runV q (ps.drop (k + 1)) + 1 else 0 := by
  have hil := (List.getElem?_eq_some_iff.1 hq).1
  rw [List.drop_eq_getElem_cons hil, (List.getElem?_eq_some_iff.1 hq).2]
  rfl

/-- A slice of told bits, wherever it lies. -/
def RdP (w : World) (a : Option Addr) (ps : List Ib) : Prop := ps.length ≤ 1048576 ∧ (ps = [] ∨ ∃ b o, a = some ⟨b, o, none⟩ ∧ ∀ i p, ps[i]? = some p → w.cell? ⟨b, o + i * 2, none⟩ = some (.int .i64 p.1) ∧ w.cell? ⟨b, o + i * 2 + 1, none⟩ = some (.int .i64 p.2))
theorem RdP.later {w w' : World} {a : Option Addr} {ps : List Ib} (h : RdP w a ps) (hb : Below w.heap.size w w') : RdP w' a ps := by
  refine ⟨h.1, ?_⟩
  rcases h.2 with h0 | ⟨b, o, e, hc⟩
  · exact .inl h0
  · refine .inr ⟨b, o, e, fun i p hi => ?_⟩
    obtain ⟨h1, h2⟩ := hc i p hi
    exact ⟨by rw [hb.cell (p := ⟨b, o + i * 2, none⟩) (block_lt_of_cell h1)]; exact h1, by rw [hb.cell (p := ⟨b, o + i * 2 + 1, none⟩) (block_lt_of_cell h2)]; exact h2⟩
theorem OL5.rdp {w : World} {B : Nat} {v : Value} {l : List Ib} (h : OL5 w B v l) (hl : l.length ≤ 1048576) : ∃ a c, v = .slice a l.length c ∧ RdP w a l := by
  by_cases e : l = []
  · subst e
    obtain ⟨a, c, rfl⟩ := h.form
    exact ⟨a, c, rfl, by simp, .inl rfl⟩
  · have h0 : 0 < l.length := List.length_pos_iff.2 e
    obtain ⟨g, c, rfl, -⟩ := h.at (List.getElem?_eq_getElem h0)
    refine ⟨_, c, rfl, hl, .inr ⟨g, 0, rfl, fun i x hi => ?_⟩⟩
    obtain ⟨g', c', e', h1, h2⟩ := h.at hi
    cases e'
    exact ⟨by rw [Nat.zero_add]; exact h1, by rw [Nat.zero_add]; exact h2⟩

end Go.Proofs.YtpejkijefpjehaaGreatDoor

/- Forms that are gathered out of segments: maths. -/
namespace Go.Proofs.YtpejkijefpjehaaGreatDoor
set_option linter.unusedVariables false
set_option linter.unusedSimpArgs false
open Go.RowKit

theorem cg2 {α β γ : Type} (f : α → β → γ) {a a' : α} {b b' : β} (h : a = a') (k : b = b') : f a b = f a' b' := by rw [h, k]
/-- A segment that is right by itself. -/
def okS (s : Sc) : Prop := 1 ≤ s.wd ∧ s.wd ≤ 4096 ∧ (∀ y ∈ s.ws, y < 18446744073709551616) ∧ (s.v = -1 ∧ s.lo = 0 ∧ s.bw = s.wd ∧ rightB s.bw s.ws = true ∨ 0 ≤ s.v ∧ s.bw = 0 ∧ s.ws = [])
/-- A form: no two neighbours could be one. -/
structure Nf (F : List Sc) : Prop where
  ok : ∀ s ∈ F, okS s
  ap : ∀ (i : Nat) (s t : Sc), F[i]? = some s → F[i + 1]? = some t → oneB s t = false
theorem Nf.tail {s : Sc} {t : List Sc} (h : Nf (s :: t)) : Nf t := ⟨fun x hx => h.ok x (List.mem_cons_of_mem _ hx), fun i a b ha hb => h.ap (i + 1) a b (by simpa using ha) (by simpa using hb)⟩

theorem formP_cons (s : Sc) (t : List Sc) : formP (s :: t) = segPs s s.wd.toNat ++ formP t := rfl
theorem formP_app (a b : List Sc) : formP (a ++ b) = formP a ++ formP b := by simp [formP]
theorem formP_nil : formP [] = [] := rfl

theorem runC_app {l r : List Ib} (h : ∀ p ∈ l, p.1 < 0) : runC (l ++ r) = l.length + runC r := by
  induction l with
  | nil => simp
  | cons p t ih =>
    rw [List.cons_append, runC, if_pos (h p (by simp)), ih (fun q hq => h q (by simp [hq]))]
    simp; omega
/-- Bits of a variable one behind the other. -/
def runL (v a : Int) (m : Nat) : List Ib := (List.range m).map fun (k : Nat) => ((v, a + (k : Int)) : Ib)
theorem runL_succ (v a : Int) (m : Nat) : runL v a (m + 1) = (v, a) :: runL v (a + 1) m := by
  unfold runL
  rw [List.range_succ_eq_map, List.map_cons, List.map_map]
  refine cg2 _ (by simp) (List.map_congr_left fun k _ => ?_)
  show ((v, a + ((k + 1 : Nat) : Int)) : Ib) = (v, a + 1 + (k : Int))
  rw [show a + ((k + 1 : Nat) : Int) = a + 1 + (k : Int) by omega]
theorem runV_app (v : Int) : ∀ (m : Nat) (a : Int) (r : List Ib), runV (v, a) (runL v (a + 1) m ++ r) = m + runV (v, a + (m : Int)) r
  | 0, a, r => by simp [runL]
  | m + 1, a, r => by
    rw [runL_succ, List.cons_append, runV, if_pos ⟨rfl, rfl⟩, runV_app v m (a + 1) r]
    rw [show a + 1 + (m : Int) = a + ((m + 1 : Nat) : Int) by omega]
    omega
theorem segPs_var {s : Sc} (h : 0 ≤ s.v) (m : Nat) : segPs s m = runL s.v s.lo m := by
  unfold segPs runL
  refine List.map_congr_left fun k _ => ?_
  simp [segP, show ¬ s.v < 0 by omega]
theorem segPs_cst {s : Sc} (h : s.v = -1) (m : Nat) : segPs s m = (List.range m).map fun k => (-1, (((tb s.ws k).toNat : Nat) : Int)) := by
  unfold segPs
  refine List.map_congr_left fun k _ => ?_
  simp [segP, h]
theorem bits_getD3 (xs : List Nat) (V i : Nat) (h : i < V) : (bitsTo xs V).getD i 0 = (tb xs i).toNat := by
  simp [bitsTo, List.getD, h]
theorem unpk {V : Nat} {xs : List Nat} (hok : rightB V xs = true) (hx : ∀ x ∈ xs, x < 18446744073709551616) : pack (bitsTo xs V) = xs := by
  have h := right_W hok
  refine (eq_pack (bitsTo_le xs V) (by rw [bitsTo_len]; omega) hx fun i hi => ?_).symm
  by_cases hi' : i < V
  · rw [bits_getD3 xs V i hi']
    cases tb xs i <;> rfl
  · rw [tb_out hok i (by omega)]
    simp [List.getD, List.getElem?_eq_none (show (bitsTo xs V).length ≤ i by rw [bitsTo_len]; omega)]

theorem cst_bits (ws : List Nat) (m : Nat) : ((List.range m).map fun k => ((-1, (((tb ws k).toNat : Nat) : Int)) : Ib)).map (fun p => p.2.toNat) = bitsTo ws m := by
  unfold bitsTo
  rw [List.map_map]
  refine List.map_congr_left fun k _ => ?_
  simp
theorem segPs_succ' (s : Sc) (m : Nat) : segPs s (m + 1) = segP s 0 :: (List.range m).map fun k => segP s (k + 1) := by
  unfold segPs
  rw [List.range_succ_eq_map, List.map_cons, List.map_map]
  rfl
/-- The first bit of a form. -/
theorem formP_head {u : Sc} {t : List Sc} (h : 1 ≤ u.wd) : ∃ r, formP (u :: t) = segP u 0 :: r := by
  obtain ⟨m, hm⟩ : ∃ m, u.wd.toNat = m + 1 := ⟨u.wd.toNat - 1, by omega⟩
  rw [formP_cons, hm, segPs_succ']
  exact ⟨_, rfl⟩
/-- A form is told by its bits. -/
theorem formB_nf : ∀ {F : List Sc}, Nf F → formB (formP F) = F
  | [], _ => rfl
  | s :: t, h => by
    have ih := formB_nf h.tail
    obtain ⟨h1, h2, h3, h4⟩ := h.ok s (by simp)
    obtain ⟨m, hm⟩ : ∃ m, s.wd.toNat = m + 1 := ⟨s.wd.toNat - 1, by omega⟩
    obtain ⟨v, lo, wd, bw, ws⟩ := s
    simp only [] at h1 h2 h3 h4 hm
    have hwd : wd = ((m + 1 : Nat) : Int) := by omega
    rw [formP_cons]
    simp only [hm]
    rcases h4 with ⟨hv, hl, hb, hr⟩ | ⟨hv, hb, hw⟩
    · subst hv hl hb
      have hn : runC (formP t) = 0 := by
        cases t with
        | nil => rfl
        | cons u r =>
          have hu := h.ap 0 _ u rfl rfl
          have hok := h.ok u (by simp)
          obtain ⟨r', hr'⟩ := formP_head (t := r) hok.1
          rw [hr', runC]
          simp only [oneB, Bool.and_eq_false_iff, decide_eq_false_iff_not, Bool.or_eq_false_iff] at hu
          have huv : 0 ≤ u.v := by
            rcases hok.2.2.2 with h9 | h9
            · rcases hu with hu | hu
              · exact absurd h9.1.symm hu
              · exact absurd trivial hu.1
            · exact h9.1
          rw [if_neg]
          simp [segP, show ¬ u.v < 0 by omega]
      have hc : ∀ q ∈ (List.range m).map (fun k => segP ⟨-1, 0, bw, bw, ws⟩ (k + 1)), q.1 < 0 := fun q hq => by
        obtain ⟨k, -, rfl⟩ := List.mem_map.1 hq
        simp [segP]
      have hlen : ((List.range m).map (fun k => segP ⟨-1, 0, bw, bw, ws⟩ (k + 1))).length = m := by simp
      have hsp : segPs ⟨-1, 0, bw, bw, ws⟩ (m + 1) = segP ⟨-1, 0, bw, bw, ws⟩ 0 :: (List.range m).map fun k => segP ⟨-1, 0, bw, bw, ws⟩ (k + 1) := segPs_succ' _ m
      rw [hsp, List.cons_append, formB_cons, if_pos (by simp [segP]), runC_app hc, hn, hlen]
      simp only [Nat.add_zero]
      rw [List.drop_left' hlen, ih]
      congr 1
      rw [← List.cons_append, ← hsp, List.take_left' (by rw [segPs_len])]
      unfold segC
      rw [segPs_len, segPs_cst rfl, cst_bits]
      have hr' : rightB ((m + 1 : Nat) : Int) ws = true := by rw [← hwd]; exact hr
      rw [unpk hr' h3, hwd]
    · subst hb hw
      have hn : runV (v, lo + (m : Int)) (formP t) = 0 := by
        cases t with
        | nil => rfl
        | cons u r =>
          have hu := h.ap 0 _ u rfl rfl
          have hok := h.ok u (by simp)
          obtain ⟨r', hr'⟩ := formP_head (t := r) hok.1
          rw [hr', runV]
          rw [if_neg]
          simp only [oneB, Bool.and_eq_false_iff, decide_eq_false_iff_not, Bool.or_eq_false_iff] at hu
          rcases hok.2.2.2 with h9 | h9
          · simp only [segP, h9.1]
            intro h8
            have := h8.1
            simp at this
            omega
          · simp only [segP, show ¬ u.v < 0 by omega, if_false]
            intro h8
            rcases hu with hu | hu
            · exact hu h8.1.symm
            · refine hu.2 ?_
              have := h8.2
              simp at this
              omega
      rw [segPs_var hv]
      simp only []
      rw [runL_succ, List.cons_append, formB_cons, if_neg (by simp; omega), runV_app, hn]
      simp only [Nat.add_zero]
      rw [List.drop_left' (by simp [runL]), ih]
      congr 1
      unfold segV
      simp only [hwd]

/-- More bits, no fewer segments. -/
theorem runC_more {l r : List Ib} (h : runC l < l.length) : runC (l ++ r) = runC l := by
  induction l with
  | nil => simp at h
  | cons p t ih =>
    rw [List.cons_append, runC, runC]
    split
    · rename_i hp
      rw [runC, if_pos hp] at h
      rw [ih (by simp at h; omega)]
    · rfl
theorem runV_more {r : List Ib} : ∀ {l : List Ib} {p : Ib}, runV p l < l.length → runV p (l ++ r) = runV p l
  | [], p, h => by simp at h
  | q :: t, p, h => by
    rw [List.cons_append, runV, runV]
    split
    · rename_i hp
      rw [runV, if_pos hp] at h
      rw [runV_more (by simp at h; omega)]
    · rfl
theorem formB_pos {p : Ib} {t : List Ib} : 1 ≤ (formB (p :: t)).length := by
  rw [formB_cons]
  split <;> simp
theorem formB_mono (r : List Ib) : ∀ (n : Nat) (l : List Ib), l.length ≤ n → (formB l).length ≤ (formB (l ++ r)).length
  | 0, l, h => by
    have : l = [] := List.eq_nil_of_length_eq_zero (by omega)
    subst this
    simp [formB_nil]
  | n + 1, [], h => by simp [formB_nil]
  | n + 1, p :: t, h => by
    simp at h
    rw [List.cons_append, formB_cons, formB_cons]
    have hc := runC_le t
    have hv := runV_le t p
    split
    · by_cases e : runC t < t.length
      · rw [runC_more e, List.drop_append_of_le_length (by omega)]
        have := formB_mono r n (t.drop (runC t)) (by simp; omega)
        simp
        exact this
      · rw [List.drop_eq_nil_of_le (show t.length ≤ runC t by omega)]
        simp [formB_nil]
    · by_cases e : runV p t < t.length
      · rw [runV_more e, List.drop_append_of_le_length (by omega)]
        have := formB_mono r n (t.drop (runV p t)) (by simp; omega)
        simp
        exact this
      · rw [List.drop_eq_nil_of_le (show t.length ≤ runV p t by omega)]
        simp [formB_nil]

theorem formB_tail (p : Ib) (t : List Ib) : (formB t).length ≤ (formB (p :: t)).length := by
  cases t with
  | nil => simp [formB_nil]
  | cons q r =>
    rw [formB_cons p]
    split
    · rw [runC]
      split
      · rename_i hq
        rw [formB_cons q, if_pos hq]
        simp
      · simp
    · rename_i hp
      rw [runV]
      split
      · rename_i hq
        rw [formB_cons q, if_neg (by rw [hq.1]; exact hp)]
        simp
      · simp
theorem formB_drop : ∀ (n : Nat) (l : List Ib), (formB (l.drop n)).length ≤ (formB l).length
  | 0, l => by simp
  | n + 1, [] => by simp
  | n + 1, p :: t => by
    rw [List.drop_succ_cons]
    exact Nat.le_trans (formB_drop n t) (formB_tail p t)
theorem formB_part (l : List Ib) (a b : Nat) : (formB ((l.drop a).take b)).length ≤ (formB l).length := by
  have h1 := formB_mono ((l.drop a).drop b) _ ((l.drop a).take b) (Nat.le_refl _)
  rw [List.take_append_drop] at h1
  exact Nat.le_trans h1 (formB_drop a l)

/-- Right segments are right by themselves. -/
theorem sgOk_okS {ds : List Dc} {s : Sc} (hd : dclR ds = true) (h : sgOk ds s = true) (hw : ∀ y ∈ s.ws, y < 18446744073709551616) : okS s := by
  obtain ⟨h1, h2⟩ := sgOk_wdt hd h
  refine ⟨h1, h2, hw, ?_⟩
  by_cases e : s.v = -1
  · obtain ⟨a, b, c⟩ := sgOk_cst h e
    exact .inl ⟨e, a, b.symm, c⟩
  · right
    obtain ⟨a, b, c, d, f⟩ := sgOk_vr h e
    refine ⟨a, ?_, ?_⟩
    · apply Classical.byContradiction
      intro hb
      rw [sgOk_out e (.inr (.inr (.inl hb)))] at h
      cases h
    · apply Classical.byContradiction
      intro hb
      rw [sgOk_out e (.inr (.inr (.inr (fun h9 => hb (List.eq_nil_of_length_eq_zero h9)))))] at h
      cases h
theorem flL_ap {ds : List Dc} : ∀ (fs : List Sc) (q : Option Sc), flL ds q fs = true → ∀ (i : Nat) (s t : Sc), fs[i]? = some s → fs[i + 1]? = some t → oneB s t = false
  | [], _, _ => by simp
  | [a], _, _ => by
    intro i s t h1 h2
    simp at h2
  | a :: b :: r, q, h => by
    intro i s t h1 h2
    have hb : flL ds (some a) (b :: r) = true := by
      cases q <;> simp only [flL, Bool.and_eq_true] at h <;> simp only [flL, Bool.and_eq_true] <;> simp_all
    match i with
    | 0 =>
      simp at h1 h2
      subst h1 h2
      simp only [flL, Bool.and_eq_true] at hb
      simp_all
    | i + 1 => exact flL_ap (b :: r) (some a) hb i s t (by simpa using h1) (by simpa using h2)
theorem Nf.of {ds : List Dc} {fs : List Sc} (h : flatR ds fs = true) (hw : ∀ s ∈ fs, ∀ y ∈ s.ws, y < 18446744073709551616) : Nf fs := by
  have h' := h
  rw [flatR_form] at h'
  simp only [Bool.and_eq_true] at h'
  obtain ⟨hall, -⟩ := formR_sum h'.1 h'.2
  simp only [flatR, Bool.and_eq_true] at h
  exact ⟨fun s hs => sgOk_okS h'.1 (hall s hs).1 (hw s hs), flL_ap fs none h.1.2⟩

/-- Two in one. -/
def oneS (a b : Sc) : Sc := if a.v = -1 then ⟨-1, 0, a.wd + b.wd, a.wd + b.wd, pack (bitsTo a.ws a.wd.toNat ++ bitsTo b.ws b.wd.toNat)⟩ else ⟨a.v, a.lo, a.wd + b.wd, 0, []⟩

theorem range_add_map {β : Type} (f : Nat → β) (a b : Nat) : (List.range (a + b)).map f = (List.range a).map f ++ (List.range b).map fun k => f (a + k) := by
  rw [List.range_add, List.map_append, List.map_map]
  rfl
theorem tb_join2 (xs ys : List Nat) (a b : Nat) (k : Nat) : tb (pack (bitsTo xs a ++ bitsTo ys b)) k = if k < a then tb xs k else (decide (k < a + b) && tb ys (k - a)) := by
  rw [tb_pack _ (fun x hx => by
    rcases List.mem_append.1 hx with h | h
    · exact bitsTo_le _ _ x h
    · exact bitsTo_le _ _ x h)]
  by_cases h : k < a
  · rw [if_pos h, List.getD, List.getElem?_append_left (by rw [bitsTo_len]; exact h)]
    have := bits_getD3 xs a k h
    simp only [List.getD] at this
    rw [this]
    cases tb xs k <;> rfl
  · rw [if_neg h, List.getD, List.getElem?_append_right (by rw [bitsTo_len]; omega), bitsTo_len]
    by_cases h2 : k < a + b
    · have := bits_getD3 ys b (k - a) (by omega)
      simp only [List.getD] at this
      rw [this]
      simp only [h2, decide_true, Bool.true_and]
      cases tb ys (k - a) <;> rfl
    · rw [List.getElem?_eq_none (by rw [bitsTo_len]; omega)]
      simp [h2]
theorem oneS_P {a b : Sc} (ha : okS a) (hb : okS b) (ho : oneB a b = true) : segPs (oneS a b) (oneS a b).wd.toNat = segPs a a.wd.toNat ++ segPs b b.wd.toNat := by
  have h1 := ha.1
  have h2 := hb.1
  simp only [oneB, Bool.and_eq_true, decide_eq_true_eq, Bool.or_eq_true] at ho
  unfold oneS
  by_cases e : a.v = -1
  · rw [if_pos e]
    simp only []
    have e2 : b.v = -1 := by rw [← ho.1]; exact e
    rw [segPs_cst rfl, segPs_cst e, segPs_cst e2, show (a.wd + b.wd).toNat = a.wd.toNat + b.wd.toNat by omega, range_add_map]
    refine cg2 _ (List.map_congr_left fun k hk => ?_) (List.map_congr_left fun k hk => ?_)
    · rw [tb_join2, if_pos (List.mem_range.1 hk)]
    · have := List.mem_range.1 hk
      rw [tb_join2, if_neg (by omega)]
      simp [show a.wd.toNat + k < a.wd.toNat + b.wd.toNat by omega]
  · rw [if_neg e]
    simp only []
    have hv : 0 ≤ a.v := by
      rcases ha.2.2.2 with h9 | h9
      · exact absurd h9.1 e
      · exact h9.1
    have e2 : a.lo + a.wd = b.lo := by
      rcases ho.2 with h9 | h9
      · exact absurd h9 e
      · exact h9
    rw [segPs_var (s := ⟨a.v, a.lo, a.wd + b.wd, 0, []⟩) hv, segPs_var hv, segPs_var (by rw [← ho.1]; exact hv), show (a.wd + b.wd).toNat = a.wd.toNat + b.wd.toNat by omega]
    unfold runL
    rw [range_add_map]
    refine cg2 _ rfl (List.map_congr_left fun k hk => ?_)
    simp only []
    rw [ho.1, ← e2]
    congr 1
    omega
theorem oneS_ok {a b : Sc} (ha : okS a) (hb : okS b) (hs : a.wd + b.wd ≤ 4096) : okS (oneS a b) := by
  have h1 := ha.1
  have h2 := hb.1
  unfold oneS
  split
  · refine ⟨by simp only []; omega, hs, fun y hy => pack_lt _ y hy, .inl ⟨rfl, rfl, rfl, ?_⟩⟩
    have := pack_right (bitsTo a.ws a.wd.toNat ++ bitsTo b.ws b.wd.toNat) (fun x hx => by
      rcases List.mem_append.1 hx with h | h
      · exact bitsTo_le _ _ x h
      · exact bitsTo_le _ _ x h) (by simp [bitsTo_len]; omega) (by simp [bitsTo_len]; omega)
    rw [List.length_append, bitsTo_len, bitsTo_len] at this
    simp only []
    rw [show a.wd + b.wd = ((a.wd.toNat + b.wd.toNat : Nat) : Int) by omega]
    exact this
  · rename_i e
    have hv : 0 ≤ a.v := by
      rcases ha.2.2.2 with h9 | h9
      · exact absurd h9.1 e
      · exact h9.1
    exact ⟨by simp only []; omega, hs, by simp, .inr ⟨hv, rfl, rfl⟩⟩
theorem oneS_on {a b c : Sc} : oneB c (oneS a b) = oneB c a ∨ (a.v = -1 ∧ oneB c (oneS a b) = oneB c a) := by
  left
  unfold oneB oneS
  split
  · rename_i e
    simp only [e]
    by_cases h : c.v = -1 <;> simp [h]
  · rfl

end Go.Proofs.YtpejkijefpjehaaGreatDoor

/- Two segments made one, by the program. -/
namespace Go.Proofs.YtpejkijefpjehaaGreatDoor
set_option linter.unusedVariables false
set_option linter.unusedSimpArgs false
open Go.RowKit

theorem wpList_appW1 {w : World} {ops : Array Oper} {rest : List Oper} {o : Oper} {a : Act} {Q : Exit → Act → World → Prop} (hgd : o.guard = none) (s x : Operand)
    (ho : o.op = .call { callee := .builtin .append, args := #[s, x], argTypes := #[53, 53] })
    (B : Nat) (v : Value) (l : List Nat) (y : Nat) (hs : a.eval s = v) (hown : OwW w B v l) (gx c : Nat) (hx : a.eval x = .slice (some ⟨gx, 0, none⟩) 1 c)
    (h0 : w.cell? ⟨gx, 0, none⟩ = some (.int .u64 (y : Int))) (hl : l.length ≤ 1073741824) (hB : B ≤ w.heap.size)
    (h : ∀ g cap w', OwW w' B (.slice (some ⟨g, 0, none⟩) (l.length + 1) cap) (l ++ [y]) → w.grownBy w' v.ownBlock → (v.ownBlock = some g ∨ g = w.heap.size) → wpList Tryz.prog ops Q rest (a.put o.dst (.slice (some ⟨g, 0, none⟩) (l.length + 1) cap)) w') : wpList Tryz.prog ops Q (o :: rest) a w := by
  obtain ⟨i0, hi, hz0, hz1, hz2⟩ := info_parts Tryz.infoU64
  refine wpList_append_lies w hgd s x 53 ho B 110 i0 _ 1 8 Tryz.underlying53 hi hz0 hz1 hz2 rfl (by decide) v l.length (u64s l).toList hs hown ⟨gx, 0, none⟩ 1 c [.int .u64 (y : Int)] hx rfl ?_ ?_ (by decide) ?_ ?_ hB _ rfl ?_
  · intro j u hj
    rw [Addr.add_lit]
    match j, hj with
    | 0, hj => simp at hj; subst hj; exact h0
    | j + 1, hj => simp at hj
  · intro u hu
    simp at hu
    subst hu
    rfl
  · unfold maxLen; omega
  · omega
  · intro g cap w' h1 h2 h3 _
    refine h g cap w' ?_ h2 h3
    unfold OwW
    rw [List.length_append]
    simpa [u64s] using h1

theorem tb_more (xs : List Nat) (m j : Nat) : tb (xs ++ List.replicate m 0) j = tb xs j := by
  unfold tb
  congr 1
  simp only [List.getD]
  by_cases h : j / 64 < xs.length
  · rw [List.getElem?_append_left h]
  · rw [List.getElem?_append_right (by omega), List.getElem?_eq_none (show xs.length ≤ j / 64 by omega), List.getElem?_replicate]
    split <;> rfl
/-- Words put behind others are the words of both. -/
theorem put_joined {P q m : Nat} {xs ys : List Nat} (hx : rightB P xs = true) (hy : rightB q ys = true) (hxl : ∀ x ∈ xs, x < 18446744073709551616) (hyl : ∀ x ∈ ys, x < 18446744073709551616) (hl : (xs ++ List.replicate m 0).length = (P + q + 63) / 64) :
    putTo (xs ++ List.replicate m 0) ys (P / 64) (P % 64) ys.length = pack (bitsTo xs P ++ bitsTo ys q) := by
  have hz : ∀ x ∈ xs ++ List.replicate m 0, x < 18446744073709551616 := fun x h => by
    rcases List.mem_append.1 h with h | h
    · exact hxl x h
    · have := List.eq_of_mem_replicate h; omega
  refine eq_pack (fun x hxm => ?_) (by rw [putTo_len, hl]; simp [bitsTo_len]) (putTo_lt _ _ _ _ _ hz hyl) fun i hi => ?_
  · rcases List.mem_append.1 hxm with h | h
    · exact bitsTo_le _ _ x h
    · exact bitsTo_le _ _ x h
  · rw [tb_put_right hy hyl _ P (by rw [hl]; omega), tb_more]
    by_cases h1 : i < P
    · have e : (bitsTo xs P ++ bitsTo ys q).getD i 0 = (tb xs i).toNat := by
        simp only [List.getD]
        rw [List.getElem?_append_left (by rw [bitsTo_len]; exact h1)]
        simp [bitsTo, h1]
      rw [e]
      simp [show ¬ P ≤ i by omega]
    · rw [tb_out hx i (by omega)]
      by_cases h2 : i - P < q
      · have e : (bitsTo xs P ++ bitsTo ys q).getD i 0 = (tb ys (i - P)).toNat := by
          simp only [List.getD]
          rw [List.getElem?_append_right (by rw [bitsTo_len]; omega), bitsTo_len]
          simp [bitsTo, h2]
        rw [e]
        simp [show P ≤ i by omega]
      · have e : (bitsTo xs P ++ bitsTo ys q).getD i 0 = 0 := by
          simp only [List.getD]
          rw [List.getElem?_eq_none (by simp [bitsTo_len]; omega)]
          rfl
        rw [e, tb_out hy (i - P) (by omega)]
        simp

theorem oww_later {w w' : World} {B : Nat} {v : Value} {l : List Nat} (h : OwW w B v l) (hb : Below w.heap.size w w') : OwW w' B v l := World.ownsRow.kept (row := none) h ⟨hb.os, hb.tape, hb.output, hb.size, fun k hk _ => hb.block k hk⟩ (by
  cases h' : v.ownBlock with
  | none => exact .inl rfl
  | some k => exact .inr (by simp))
theorem oww_typed {w : World} {B : Nat} {v : Value} {l : List Nat} (h : OwW w B v l) {b : Nat} (hb : v.ownBlock = some b) : (∃ cur, w.heap[b]? = some (.cells cur 110 (0, 0))) ∧ B ≤ b := by
  rcases h.2 with ⟨rfl, -⟩ | ⟨g, cap, cur, rfl, hg, hh, -⟩
  · cases hb
  · cases hb; exact ⟨⟨cur, hh⟩, hg⟩
theorem bz_oww {w w' : World} {b B : Nat} {v : Value} {xs : List Nat} {cs : Array Value} {t : TypeId} (hb : Bz w b cs t) (h : OwW w B v xs) (ht : t ≠ 110) (hg : w.grownBy w' v.ownBlock) : Bz w' b cs t := by
  unfold Bz at hb ⊢
  rw [hg.block b (lt_of_block hb) (fun e => by
    obtain ⟨⟨cur, hc⟩, -⟩ := oww_typed h e.symm
    rw [hb] at hc
    cases hc
    exact ht rfl)]
  exact hb
theorem oww_set {w : World} {B b i : Nat} {v : Value} {xs : List Nat} {cs : Array Value} {t : TypeId} (h : OwW w B v xs) (hb : Bz w b cs t) (ht : t ≠ 110) (u : Value) : OwW (w.setCell ⟨b, i, none⟩ u) B v xs := by
  obtain ⟨h1, h2⟩ := h
  refine ⟨h1, ?_⟩
  rcases h2 with h2 | ⟨g, cap, cur, rfl, hg, hh, r⟩
  · exact .inl h2
  · refine .inr ⟨g, cap, cur, rfl, hg, ?_, r⟩
    rw [heap_setCell_other _ _ _ _ (fun e => by
      simp only [] at e
      unfold Bz at hb
      rw [e, hb] at hh
      cases hh
      exact ht rfl)]
    exact hh
theorem gsc3 (w : World) (a : Addr) (u : Value) : w.grownBy (w.setCell a u) (some a.block) :=
  ⟨rfl, rfl, rfl, by simp, fun k _ hk => heap_setCell_other _ _ _ _ (fun e => hk (by rw [e]))⟩
theorem rd_gr {w w' : World} {a : Option Addr} {xs : List Nat} {r : Option Nat} (h : Rd w a xs) (hg : w.grownBy w' r) (hne : ∀ p, a = some p → r ≠ some p.block) : Rd w' a xs := by
  obtain ⟨h1, h2, h3⟩ := h
  refine ⟨h1, h2, ?_⟩
  rcases h3 with h3 | ⟨b, o, rfl, hc⟩
  · exact .inl h3
  · refine .inr ⟨b, o, rfl, fun i hi => ?_⟩
    have hl := block_lt_of_cell (hc i hi)
    rw [World.cell?_of_block (a := ⟨b, o + i, none⟩) (hg.block b hl (fun e => hne _ rfl e.symm))]
    exact hc i hi
def lenC (w : World) (b i : Nat) : Nat := match w.cell? ⟨b, i, none⟩ with | some (.slice _ n _) => n | _ => 0
/-- Grown by a block of one's own, or by a new one. -/
theorem grown_own {w w1 w2 : World} {own : Option Nat} {r : Option Nat} (h : w.grownBy w1 own) (h2 : w1.grownBy w2 r) (hr : ∀ k, r = some k → own = some k ∨ w.heap.size ≤ k) : w.grownBy w2 own :=
  ⟨h2.os.trans h.os, h2.tape.trans h.tape, h2.output.trans h.output, Nat.le_trans h.size h2.size, fun k hk hne => by
    rw [h2.block k (Nat.lt_of_lt_of_le hk h.size) (fun e => by
      rcases hr k e.symm with h9 | h9
      · exact hne h9.symm
      · omega)]
    exact h.block k hk hne⟩

/-- What two in one are. -/
def RetO (s t : Sc) (B : Nat) (own : Option Nat) (w : World) (e : Ending) (w' : World) : Prop := ∃ v, e = .returned (.agg #[.int .i64 (oneS s t).v, .int .i64 (oneS s t).lo, .int .i64 (oneS s t).wd, .int .i64 (oneS s t).bw, v]) ∧ OwW w' B v (oneS s t).ws ∧ (∀ k, v.ownBlock = some k → own = some k ∨ w.heap.size ≤ k) ∧ w.grownBy w' own

set_option maxHeartbeats 1000000 in
set_option maxRecDepth 100000 in
theorem oneSeg_any (s t : Sc) (B : Nat) (av bv : Option Addr) (ca cb : Nat) (w : World) (hs : okS s) (ht : okS t) (ho : oneB s t = true) (hsum : s.wd + t.wd ≤ 4096) (hB : B ≤ w.heap.size) (hA : OwW w B (.slice av s.ws.length ca) s.ws) (hT : Rd w bv t.ws) (hne : ∀ p q, av = some p → bv = some q → p.block ≠ q.block) :
    Calls Tryz.prog 122 #[.agg #[.int .i64 s.v, .int .i64 s.lo, .int .i64 s.wd, .int .i64 s.bw, .slice av s.ws.length ca], .agg #[.int .i64 t.v, .int .i64 t.lo, .int .i64 t.wd, .int .i64 t.bw, .slice bv t.ws.length cb]] w (RetO s t B (Value.slice av s.ws.length ca).ownBlock w) := by
  obtain ⟨v, lo, wd, bw, ws⟩ := s
  obtain ⟨v2, lo2, wd2, bw2, ws2⟩ := t
  have HS := kide hs
  have HT := kide ht
  have HO := kide ho
  have h1 := hs.1
  have h2 := ht.1
  simp only [] at hsum hA hT h1 h2 ⊢
  obtain ⟨n, hn⟩ : ∃ n, ws.length = n := ⟨_, rfl⟩
  obtain ⟨n2, hn2⟩ : ∃ n, ws2.length = n := ⟨_, rfl⟩
  rw [hn] at hA ⊢
  rw [hn2]
  have HN := kide hn
  have HN2 := kide hn2
  have HNE := kide hne
  have HA0 := kide hA
  have HT0 := kide hT
  clear hs ht ho hn hn2 hne hA hT
  go_enter Tryz.func122, Tryz.ntmps122
  have hww : IntKind.i64.wrap (wd + wd2) = wd + wd2 := by rw [IntKind.wrap_i64]; first | omega | (unfold wrap64; omega)
  by_cases hv : v = -1
  · subst hv
    have hv : (-1 : Int) = -1 := rfl
    have hcs : Hid (wd = bw ∧ rightB bw ws = true ∧ lo = 0 ∧ wd2 = bw2 ∧ rightB bw2 ws2 = true) := by
      have h9 := HO.out
      simp only [oneB, Bool.and_eq_true, decide_eq_true_eq] at h9
      have hv2 : v2 = -1 := h9.1.symm
      rcases HS.out.2.2.2 with h3 | h3
      · rcases HT.out.2.2.2 with h4 | h4
        · exact ⟨h3.2.2.1.symm, h3.2.2.2, h3.2.1, h4.2.2.1.symm, h4.2.2.2⟩
        · have := h4.1; simp only [] at this; omega
      · have := h3.1; simp only [] at this; omega
    have B4 : Hid (Below w.heap.size w (((w.alloc (Obj.cells #[Value.int .i64 (-1), Value.int .i64 lo, Value.int .i64 (wd + wd2), Value.int .i64 (wd + wd2), Value.slice av n ca] 80)).alloc (Obj.cells #[Value.int .i64 v2, Value.int .i64 lo2, Value.int .i64 wd2, Value.int .i64 bw2, Value.slice bv n2 cb] 80)).alloc (Obj.cells #[Value.int .i64 0, Value.int .i64 0, Value.int .i64 0, Value.int .i64 0, Value.slice none 0 0] 80))) := (((Below.refl _ _).alloc (Nat.le_refl _) _).alloc (by simp) _).alloc (by simp; omega) _
    have X4 : Hid (Bz (((w.alloc (Obj.cells #[Value.int .i64 (-1), Value.int .i64 lo, Value.int .i64 (wd + wd2), Value.int .i64 (wd + wd2), Value.slice av n ca] 80)).alloc (Obj.cells #[Value.int .i64 v2, Value.int .i64 lo2, Value.int .i64 wd2, Value.int .i64 bw2, Value.slice bv n2 cb] 80)).alloc (Obj.cells #[Value.int .i64 0, Value.int .i64 0, Value.int .i64 0, Value.int .i64 0, Value.slice none 0 0] 80)) w.heap.size #[Value.int .i64 (-1), Value.int .i64 lo, Value.int .i64 (wd + wd2), Value.int .i64 (wd + wd2), Value.slice av n ca] 80) := ((Bz.new w #[Value.int .i64 (-1), Value.int .i64 lo, Value.int .i64 (wd + wd2), Value.int .i64 (wd + wd2), Value.slice av n ca] 80).later (((Below.refl _ _).alloc (Nat.le_refl _) _))).later ((Below.refl _ _).alloc (Nat.le_refl _) _)
    have Y4 : Hid (Bz (((w.alloc (Obj.cells #[Value.int .i64 (-1), Value.int .i64 lo, Value.int .i64 (wd + wd2), Value.int .i64 (wd + wd2), Value.slice av n ca] 80)).alloc (Obj.cells #[Value.int .i64 v2, Value.int .i64 lo2, Value.int .i64 wd2, Value.int .i64 bw2, Value.slice bv n2 cb] 80)).alloc (Obj.cells #[Value.int .i64 0, Value.int .i64 0, Value.int .i64 0, Value.int .i64 0, Value.slice none 0 0] 80)) (w.heap.size + 1) #[Value.int .i64 v2, Value.int .i64 lo2, Value.int .i64 wd2, Value.int .i64 bw2, Value.slice bv n2 cb] 80) := by
      have h9 := (Bz.new (w.alloc (Obj.cells #[Value.int .i64 (-1), Value.int .i64 lo, Value.int .i64 (wd + wd2), Value.int .i64 (wd + wd2), Value.slice av n ca] 80)) #[Value.int .i64 v2, Value.int .i64 lo2, Value.int .i64 wd2, Value.int .i64 bw2, Value.slice bv n2 cb] 80).later ((Below.refl _ _).alloc (Nat.le_refl _) (Obj.cells #[Value.int .i64 0, Value.int .i64 0, Value.int .i64 0, Value.int .i64 0, Value.slice none 0 0] 80))
      rw [World.size_alloc] at h9
      exact h9
    have Z4 : Hid (Bz (((w.alloc (Obj.cells #[Value.int .i64 (-1), Value.int .i64 lo, Value.int .i64 (wd + wd2), Value.int .i64 (wd + wd2), Value.slice av n ca] 80)).alloc (Obj.cells #[Value.int .i64 v2, Value.int .i64 lo2, Value.int .i64 wd2, Value.int .i64 bw2, Value.slice bv n2 cb] 80)).alloc (Obj.cells #[Value.int .i64 0, Value.int .i64 0, Value.int .i64 0, Value.int .i64 0, Value.slice none 0 0] 80)) (w.heap.size + 1 + 1) #[Value.int .i64 0, Value.int .i64 0, Value.int .i64 0, Value.int .i64 0, Value.slice none 0 0] 80) := by
      have h9 := Bz.new ((w.alloc (Obj.cells #[Value.int .i64 (-1), Value.int .i64 lo, Value.int .i64 (wd + wd2), Value.int .i64 (wd + wd2), Value.slice av n ca] 80)).alloc (Obj.cells #[Value.int .i64 v2, Value.int .i64 lo2, Value.int .i64 wd2, Value.int .i64 bw2, Value.slice bv n2 cb] 80)) #[Value.int .i64 0, Value.int .i64 0, Value.int .i64 0, Value.int .i64 0, Value.slice none 0 0] 80
      rw [World.size_alloc, World.size_alloc] at h9
      exact h9
    have O4 := kide (oww_later HA0.out B4.out)
    have R4 := kide (HT0.out.later B4.out)
    go_wp2_with fail
    obtain ⟨b0, hb0⟩ : ∃ b0, w.heap.size = b0 := ⟨_, rfl⟩
    rw [hb0] at X4 Y4 Z4
    have HB0 := kide hb0
    simp only [hb0]
    clear hb0
    generalize (((w.alloc (Obj.cells #[Value.int .i64 (-1), Value.int .i64 lo, Value.int .i64 (wd + wd2), Value.int .i64 (wd + wd2), Value.slice av n ca] 80)).alloc (Obj.cells #[Value.int .i64 v2, Value.int .i64 lo2, Value.int .i64 wd2, Value.int .i64 bw2, Value.slice bv n2 cb] 80)).alloc (Obj.cells #[Value.int .i64 0, Value.int .i64 0, Value.int .i64 0, Value.int .i64 0, Value.slice none 0 0] 80)) = w4 at *
    obtain ⟨h31, h32, h33, h34, h35⟩ := hcs.out
    have HR1 := kide h32
    have HR2 := kide h35
    subst h31 h34
    have HLO := kide h33
    clear h33 hcs hv
    have hrw := right_W HR1.out
    have hrw2 := right_W HR2.out
    clear h32 h35
    have hn1 : 1 ≤ n := by have := HN.out; omega
    obtain ⟨gA, rfl⟩ : ∃ g, av = some ⟨g, 0, none⟩ := by
      rcases HA0.out.2 with ⟨e, h9⟩ | ⟨g, cap, cur, e, -⟩
      · have := HN.out; omega
      · cases e; exact ⟨g, rfl⟩
    obtain ⟨N, hN⟩ : ∃ N : Nat, (wd + wd2 + 63) / 64 = (N : Int) := ⟨((wd + wd2 + 63) / 64).toNat, by omega⟩
    have hnN : n ≤ N := by have := HN.out; omega
    have hN64 : N ≤ 64 := by omega
    have HWF := kide (fun u => wordsFor_any (wd + wd2) (by omega) hsum u)
    rw [hN] at HWF
    have HG0 : Hid (w.grownBy w4 (some gA)) := ⟨B4.out.os, B4.out.tape, B4.out.output, B4.out.size, fun k hk _ => B4.out.block k hk⟩
    go_loopw [] (fun wr => ∃ (k c g : Nat), n ≤ k ∧ k ≤ N ∧ Bz wr b0 #[Value.int .i64 (-1), Value.int .i64 lo, Value.int .i64 (wd + wd2), Value.int .i64 (wd + wd2), Value.slice (some ⟨g, 0, none⟩) k c] 80 ∧ OwW wr B (.slice (some ⟨g, 0, none⟩) k c) (ws ++ List.replicate (k - n) 0) ∧ (g = gA ∨ w.heap.size ≤ g) ∧ Bz wr (b0 + 1) #[Value.int .i64 v2, Value.int .i64 lo2, Value.int .i64 wd2, Value.int .i64 wd2, Value.slice bv n2 cb] 80 ∧ Bz wr (b0 + 1 + 1) #[Value.int .i64 0, Value.int .i64 0, Value.int .i64 0, Value.int .i64 0, Value.slice none 0 0] 80 ∧ w.grownBy wr (some gA)) (fun wr => 64 - lenC wr b0 4)
    case atStart => exact ⟨n, ca, gA, Nat.le_refl _, hnN, X4.out, by rw [Nat.sub_self]; simpa using O4.out, .inl rfl, Y4.out, Z4.out, HG0.out⟩
    case round =>
      clear X4 Y4 Z4 O4 R4 B4 HG0
      obtain ⟨k, c, g, hnk, hkN, hx, ho, hgl, hy, hz, hgr⟩ := hrel
      have XR := kide hx
      have OR := kide ho
      have YR := kide hy
      have ZR := kide hz
      have GR := kide hgr
      have HGL := kide hgl
      have c2 := hx.cell 2
      have c4 := hx.cell 4
      simp at c2 c4
      clear hx ho hy hz hgr hgl
      go_wp2_with fail
      go_quiet ((go_at_call 109; exact Calls.quiet_of_same (HWF.out _)))
      have hbd := below_drewN (Below.refl wr.heap.size wr) nq
      have X5 := kide (XR.out.later hbd)
      have O5 := kide (oww_later OR.out hbd)
      have Y5 := kide (YR.out.later hbd)
      have Z5 := kide (ZR.out.later hbd)
      have G5 : Hid (w.grownBy (wr.drewN nq) (some gA)) := grown_own GR.out (r := none) ⟨hbd.os, hbd.tape, hbd.output, hbd.size, fun k hk _ => hbd.block k hk⟩ (fun k e => by cases e)
      have hlC : lenC wr b0 4 = k := by
        have := XR.out.cell 4
        unfold lenC
        rw [this]
        rfl
      have HLC := kide hlC
      clear hbd OR YR ZR GR hlC c2 c4
      generalize wr.drewN nq = w5 at *
      have d4 := X5.out.cell 4
      have f4 := X5.out.froz 4
      simp at d4
      have hz5 : b0 < w5.heap.size := X5.out.lt
      by_cases hlt : k < N
      · have i0 : (k : Int) < (N : Int) := by omega
        have BA : Hid (Below w5.heap.size w5 (w5.alloc (Obj.cells #[Value.int .u64 0] 110))) := (Below.refl _ _).alloc (Nat.le_refl _) _
        have OA := kide (oww_later O5.out BA.out)
        have XA := kide (X5.out.later BA.out)
        have YA := kide (Y5.out.later BA.out)
        have ZA := kide (Z5.out.later BA.out)
        have GA : Hid (w.grownBy (w5.alloc (Obj.cells #[Value.int .u64 0] 110)) (some gA)) := grown_own G5.out (World.grownBy_alloc _ _ none) (fun k e => by cases e)
        obtain ⟨zs, hzs⟩ : ∃ zs, ws ++ List.replicate (k - n) 0 = zs := ⟨_, rfl⟩
        have hzl : zs.length = k := by rw [← hzs, List.length_append, HN.out]; simp; omega
        have hll : zs.length ≤ 1073741824 := by omega
        rw [hzs] at OA
        have HZS := kide hzs
        have HZL := kide hzl
        clear hzs hzl
        have hsz : B ≤ w5.heap.size + 1 := by have := G5.out.size; omega
        have q0 : (w5.alloc (Obj.cells #[Value.int .u64 0] 110)).cell? ⟨w5.heap.size, 0, none⟩ = some (.int .u64 ((0 : Nat) : Int)) := by simp
        go_wp2_with (at_builtin; refine wpList_appW1 rfl _ _ rfl B _ zs 0 rfl OA.out _ _ rfl q0 hll (by simpa using hsz) ?_)
        intro g6 c6 w6 ho6 hg6 hl6
        rw [HZL.out] at ho6 ⊢
        have X6 := kide (bz_oww XA.out OA.out (by decide) hg6)
        have Y6 := kide (bz_oww YA.out OA.out (by decide) hg6)
        have Z6 := kide (bz_oww ZA.out OA.out (by decide) hg6)
        have G6 : Hid (w.grownBy w6 (some gA)) := grown_own GA.out hg6 (fun q e => by
          cases e
          rcases HGL.out with h9 | h9
          · exact .inl (by rw [h9])
          · exact .inr h9)
        have O6 : Hid (OwW w6 B (.slice (some ⟨g6, 0, none⟩) (k + 1) c6) (ws ++ List.replicate (k + 1 - n) 0)) := by
          show OwW _ _ _ _
          rw [show k + 1 - n = k - n + 1 by omega, List.replicate_succ', ← List.append_assoc, HZS.out]
          exact ho6
        have L6 : Hid (g6 = gA ∨ w.heap.size ≤ g6) := by
          rcases hl6 with h9 | h9
          · cases h9; exact HGL.out
          · right; rw [h9]; have := G5.out.size; simp; omega
        have e4 := X6.out.cell 4
        have e5 := X6.out.froz 4
        simp at e4
        clear ho6 hg6 hl6 OA XA YA ZA GA BA q0 hll
        go_wp2_with fail
        have X7 := kide (X6.out.set 4 (.slice (some ⟨g6, 0, none⟩) (k + 1) c6))
        go_roundw
        case rel => exact ⟨k + 1, c6, g6, by omega, by omega, X7.out, oww_set O6.out X6.out (by decide) _, L6.out, Y6.out.other (by omega) 4 _, Z6.out.other (by omega) 4 _, grown_own G6.out (gsc3 w6 ⟨b0, 4, none⟩ _) (fun q e => by cases e; right; rw [HB0.out]; exact Nat.le_refl _)⟩
        case measure =>
          have h9 : lenC (w6.setCell ⟨b0, 4, none⟩ (.slice (some ⟨g6, 0, none⟩) (k + 1) c6)) b0 4 = k + 1 := by
            have := X7.out.cell 4
            unfold lenC
            rw [this]
            rfl
          have h8 := HLC.out
          rw [h9, h8]
          omega
      · obtain rfl : k = N := by omega
        have d0 := X5.out.cell 0
        have d1 := X5.out.cell 1
        have d2 := X5.out.cell 2
        have d3 := X5.out.cell 3
        have y3 := Y5.out.cell 3
        have y4 := Y5.out.cell 4
        simp at d0 d1 d2 d3 y3 y4
        have i0 : ¬ (k : Int) < (k : Int) := by omega
        obtain ⟨zs, hzs⟩ : ∃ zs, ws ++ List.replicate (k - n) 0 = zs := ⟨_, rfl⟩
        have hzl : zs.length = k := by rw [← hzs, List.length_append, HN.out]; simp; omega
        have hws : ∀ x ∈ ws, x < 18446744073709551616 := HS.out.2.2.1
        have hws2 : ∀ x ∈ ws2, x < 18446744073709551616 := HT.out.2.2.1
        obtain ⟨D, hD⟩ : ∃ D : Nat, wd = (D : Int) := ⟨wd.toNat, by omega⟩
        obtain ⟨E, hE⟩ : ∃ E : Nat, wd2 = (E : Int) := ⟨wd2.toNat, by omega⟩
        have hr1 : rightB (D : Int) ws = true := by rw [← hD]; exact HR1.out
        have hr2 : rightB (E : Int) ws2 = true := by rw [← hE]; exact HR2.out
        have hlen : (ws ++ List.replicate (k - n) 0).length = (D + E + 63) / 64 := by rw [hzs, hzl]; omega
        have hpj := put_joined (m := k - n) hr1 hr2 hws hws2 hlen
        rw [hzs] at hpj hlen O5
        have hq : ∀ p, bv = some p → p.block ≠ gA ∧ p.block < w.heap.size := fun p hp => by
          refine ⟨fun e => HNE.out _ p rfl hp e.symm, ?_⟩
          subst hp
          rcases HT0.out.2.2 with h9 | ⟨b, o, e, hc⟩
          · have h8 := (right_W HR2.out).2.2; rw [h9] at h8; simp at h8; omega
          · cases e; exact block_lt_of_cell (hc 0 (by have h8 := (right_W HR2.out).2.2; omega))
        have hrd : Rd w5 bv ws2 := rd_gr HT0.out G5.out (fun p hp e => (hq p hp).1 (by cases e; rfl))
        have hpb := putBitsP_any c (wd + wd2) wd2 g c cb D bv zs ws2 w5 (Owp.ofW O5.out).1 hrd (fun x hx => by
          rw [← hzs] at hx
          rcases List.mem_append.1 hx with h9 | h9
          · exact hws x h9
          · have := List.eq_of_mem_replicate h9; omega) (by omega) (by omega) (by have := HN2.out; omega) (put_fit hr2 hws2 D zs.length (by omega)) (fun x hx e => by
          have h8 := hq x hx
          rcases HGL.out with h9 | h9
          · exact h8.1 (by rw [e, h9])
          · omega)
        rw [hzl, HN2.out, ← hD] at hpb
        rw [HN2.out] at hpj
        have HPB := kide hpb
        have HPJ := kide hpj
        have HZL := kide hzl
        have hDE := kide (And.intro hD hE)
        clear hzs hzl hws hws2 hD hE hr1 hr2 hlen hpj hq hrd hpb
        go_wp2_with fail
        refine Calls.mono HPB.out ?_
        rintro e w6 ⟨rfl, ho6, hg6⟩
        have X6 := kide (bz_oww X5.out O5.out (by decide) hg6)
        have Z6 := kide (bz_oww Z5.out O5.out (by decide) hg6)
        have O6 : Hid (OwW w6 B (.slice (some ⟨g, 0, none⟩) k c) (pack (bitsTo ws D ++ bitsTo ws2 E))) := by
          show OwW _ _ _ _
          rw [← HPJ.out]
          exact OwW.put O5.out ho6 (putTo_len _ _ _ _ _)
        have G6 : Hid (w.grownBy w6 (some gA)) := grown_own G5.out hg6 (fun q e => by
          cases e
          rcases HGL.out with h9 | h9
          · exact .inl (by rw [h9])
          · exact .inr h9)
        have r0 := X6.out.cell 0
        have r1 := X6.out.cell 1
        have r2 := X6.out.cell 2
        have r3 := X6.out.cell 3
        have r4 := X6.out.cell 4
        have z0 := Z6.out.cell 0
        have z1 := Z6.out.cell 1
        have z2 := Z6.out.cell 2
        have z3 := Z6.out.cell 3
        have z4 := Z6.out.cell 4
        have s0 := Z6.out.froz 0
        have s1 := Z6.out.froz 1
        have s2 := Z6.out.froz 2
        have s3 := Z6.out.froz 3
        have s4 := Z6.out.froz 4
        simp at r0 r1 r2 r3 r4 z0 z1 z2 z3 z4
        clear ho6 hg6 d0 d1 d2 d3 d4 y3 y4 f4
        go_wp2_with fail
        have XZ := kide ((((((Z6.out.set 0 (.int .i64 (-1))).set 1 (.int .i64 lo)).set 2 (.int .i64 (wd + wd2))).set 3 (.int .i64 (wd + wd2))).set 4 (.slice (some ⟨g, 0, none⟩) k c)))
        have OZ := kide ((oww_set (i := 4) (oww_set (i := 3) (oww_set (i := 2) (oww_set (i := 1) (oww_set (i := 0) O6.out Z6.out (by decide) (.int .i64 (-1))) (Z6.out.set 0 (.int .i64 (-1))) (by decide) (.int .i64 lo)) ((Z6.out.set 0 (.int .i64 (-1))).set 1 (.int .i64 lo)) (by decide) (.int .i64 (wd + wd2))) (((Z6.out.set 0 (.int .i64 (-1))).set 1 (.int .i64 lo)).set 2 (.int .i64 (wd + wd2))) (by decide) (.int .i64 (wd + wd2))) ((((Z6.out.set 0 (.int .i64 (-1))).set 1 (.int .i64 lo)).set 2 (.int .i64 (wd + wd2))).set 3 (.int .i64 (wd + wd2))) (by decide) (.slice (some ⟨g, 0, none⟩) k c)))
        have GZ := kide ((grown_own (grown_own (grown_own (grown_own (grown_own G6.out (gsc3 w6 ⟨b0 + 1 + 1, 0, none⟩ (.int .i64 (-1))) (fun q e => by cases e; right; have := HB0.out; simp only []; omega)) (gsc3 (w6.setCell ⟨b0 + 1 + 1, 0, none⟩ (.int .i64 (-1))) ⟨b0 + 1 + 1, 1, none⟩ (.int .i64 lo)) (fun q e => by cases e; right; have := HB0.out; simp only []; omega)) (gsc3 ((w6.setCell ⟨b0 + 1 + 1, 0, none⟩ (.int .i64 (-1))).setCell ⟨b0 + 1 + 1, 1, none⟩ (.int .i64 lo)) ⟨b0 + 1 + 1, 2, none⟩ (.int .i64 (wd + wd2))) (fun q e => by cases e; right; have := HB0.out; simp only []; omega)) (gsc3 (((w6.setCell ⟨b0 + 1 + 1, 0, none⟩ (.int .i64 (-1))).setCell ⟨b0 + 1 + 1, 1, none⟩ (.int .i64 lo)).setCell ⟨b0 + 1 + 1, 2, none⟩ (.int .i64 (wd + wd2))) ⟨b0 + 1 + 1, 3, none⟩ (.int .i64 (wd + wd2))) (fun q e => by cases e; right; have := HB0.out; simp only []; omega)) (gsc3 ((((w6.setCell ⟨b0 + 1 + 1, 0, none⟩ (.int .i64 (-1))).setCell ⟨b0 + 1 + 1, 1, none⟩ (.int .i64 lo)).setCell ⟨b0 + 1 + 1, 2, none⟩ (.int .i64 (wd + wd2))).setCell ⟨b0 + 1 + 1, 3, none⟩ (.int .i64 (wd + wd2))) ⟨b0 + 1 + 1, 4, none⟩ (.slice (some ⟨g, 0, none⟩) k c)) (fun q e => by cases e; right; have := HB0.out; simp only []; omega)))
        have k0 := XZ.out.cell 0
        have k1 := XZ.out.cell 1
        have k2 := XZ.out.cell 2
        have k3 := XZ.out.cell 3
        have k4 := XZ.out.cell 4
        simp at k0 k1 k2 k3 k4
        have e2 : oneS ⟨-1, lo, wd, wd, ws⟩ ⟨v2, lo2, wd2, wd2, ws2⟩ = ⟨-1, 0, wd + wd2, wd + wd2, pack (bitsTo ws D ++ bitsTo ws2 E)⟩ := by
          obtain ⟨h8, h9⟩ := hDE.out
          unfold oneS
          rw [if_pos rfl, h8, h9]
          simp
        exact bodyPost_ret (v := .agg #[.int .i64 (-1), .int .i64 lo, .int .i64 (wd + wd2), .int .i64 (wd + wd2), .slice (some ⟨g, 0, none⟩) k c]) (by simp [results, Tryz.results122, go_sem, k0, k1, k2, k3, k4]) rfl ⟨.slice (some ⟨g, 0, none⟩) k c, by rw [e2, HLO.out], by rw [e2]; exact OZ.out, fun q e => by
          cases e
          rcases HGL.out with h9 | h9
          · exact .inl (by rw [h9]; rfl)
          · exact .inr h9, GZ.out⟩
  · have e1 : (v == -1) = false := by simp [hv]
    have e2 : oneS ⟨v, lo, wd, bw, ws⟩ ⟨v2, lo2, wd2, bw2, ws2⟩ = ⟨v, lo, wd + wd2, 0, []⟩ := if_neg hv
    have e3 : bw = 0 ∧ ws = [] := by
      rcases HS.out.2.2.2 with h3 | h3
      · exact absurd h3.1 hv
      · exact h3.2
    obtain ⟨rfl, rfl⟩ := e3
    have HE2 := kide e2
    clear e2
    go_wp2_with fail
    refine bodyPost_ret (v := .agg #[.int .i64 v, .int .i64 lo, .int .i64 (wd + wd2), .int .i64 0, .slice av n ca]) (by simp [results, Tryz.results122, go_sem]) rfl ⟨.slice av n ca, by rw [HE2.out], ?_, fun k hk => .inl hk, ?_⟩
    · rw [HE2.out]
      exact oww_later HA0.out ((((Below.refl _ _).alloc (Nat.le_refl _) _).alloc (by simp) _).alloc (by simp; omega) _)
    · exact World.grownBy.trans (World.grownBy.trans (World.grownBy_alloc _ _ _) (World.grownBy_alloc _ _ _)) (World.grownBy_alloc _ _ _)

end Go.Proofs.YtpejkijefpjehaaGreatDoor

/- 'append(list, more...)' of told bits. -/
namespace Go.Proofs.YtpejkijefpjehaaGreatDoor
set_option linter.unusedVariables false
set_option linter.unusedSimpArgs false
open Go.RowKit

theorem ibc_ints : ∀ (l : List (Int × Int)) (u : Value), u ∈ ibc l → ∃ x : Int, u = .int .i64 x
  | [], u, h => by simp [ibc] at h
  | p :: t, u, h => by
    simp [ibc] at h
    rcases h with rfl | rfl | h
    · exact ⟨_, rfl⟩
    · exact ⟨_, rfl⟩
    · exact ibc_ints t u h
/-- 'append(list, more...)' in a row of operations. -/
theorem wpList_appL5s {w : World} {ops : Array Oper} {rest : List Oper} {o : Oper} {a : Act} {Q : Exit → Act → World → Prop} (hgd : o.guard = none) (s x : Operand)
    (ho : o.op = .call { callee := .builtin .append, args := #[s, x], argTypes := #[70, 70] })
    (B B' : Nat) (v : Value) (l m : List (Int × Int)) (hs : a.eval s = v) (hown : OL5 w B v l) (gx k c : Nat) (hx : a.eval x = .slice (some ⟨gx, 0, none⟩) k c) (hk : m.length = k) (hk0 : 0 < k)
    (hm : OL5 w B' (.slice (some ⟨gx, 0, none⟩) k c) m) (hl : l.length + m.length ≤ 1073741824) (hB : B ≤ w.heap.size)
    (h : ∀ g cap w', OL5 w' B (.slice (some ⟨g, 0, none⟩) (l.length + k) cap) (l ++ m) → w.grownBy w' v.ownBlock → wpList Tryz.prog ops Q rest (a.put o.dst (.slice (some ⟨g, 0, none⟩) (l.length + k) cap)) w') : wpList Tryz.prog ops Q (o :: rest) a w := by
  obtain ⟨i0, hi, hz0, hz1, hz2⟩ := info_parts Tryz.infoL5
  refine wpList_append_lies w hgd s x 70 ho B 116 i0 _ 2 16 Tryz.underlying70 hi hz0 hz1 hz2 rfl (by decide) v l.length (ibc l) hs hown ⟨gx, 0, none⟩ k c (ibc m) hx (by rw [ibc_len, hk]) ?_ ?_ hk0 ?_ ?_ hB _ rfl ?_
  · intro j u hj
    exact World.ownsRow.cells hm (g := gx) rfl j u hj
  · intro u hu
    obtain ⟨z, rfl⟩ := ibc_ints m u hu
    rfl
  · unfold maxLen; omega
  · omega
  · intro g cap w' h1 h2 _ _
    refine h g cap w' ?_ h2
    unfold OL5
    rw [ibc_append, List.length_append, hk]
    exact h1

end Go.Proofs.YtpejkijefpjehaaGreatDoor
