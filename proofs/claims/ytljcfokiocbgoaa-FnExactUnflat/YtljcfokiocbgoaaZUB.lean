/- Several texts in one. -/
import Derived.WalkKit
import Derived.Maps.OwnSet
import Derived.Test.YtljcfokiocbgoaaZUA
import Derived.WalkSpells
import Derived.Deep.QuietTactic
import Derived.BigQuiet
import Derived.Outline
import Derived.WalkSmall
import Derived.Deep.OwnRows
import Derived.Deep.RegionHeld3
import Derived.OrdersHeld
import Derived.RegionTactic
import Derived.Deep.RegionHeldLaw

/- Plain facts on trees as lists of nodes: walked from the root down, and node by node with a stack of open lists. No program in sight. -/
namespace Go.Proofs.Ytljcfokiocbgoaa
set_option linter.unusedVariables false
set_option linter.unusedSimpArgs false
open Go.RowKit

/-- The byte at a place of a text. -/
def bn (s : ByteArray) (k : Nat) : Nat := if h : k < s.size then (s[k]'h).toNat else 0
theorem get_bn (s : ByteArray) : ∀ (n : Nat) (h : n < s.size), (s[n]'h).toNat = bn s n := fun n h => by unfold bn; rw [dif_pos h]
theorem bn_lt (s : ByteArray) (k : Nat) : bn s k < 256 := by
  unfold bn; split
  · exact UInt8.toNat_lt _
  · omega

/-- A byte that may stand in an atom. -/
def atomB (c : Nat) : Bool := decide (33 ≤ c) && decide (c ≤ 126) && !decide (c = 40) && !decide (c = 41) && !decide (c = 59)

def allAtom (s : ByteArray) : Bool := (List.range s.size).all fun i => atomB (bn s i)

theorem allAtom_iff (s : ByteArray) : allAtom s = true ↔ ∀ i, i < s.size → atomB (bn s i) = true := by
  unfold allAtom
  rw [List.all_eq_true]
  exact ⟨fun h i hi => h i (List.mem_range.2 hi), fun h i hi => h i (List.mem_range.1 hi)⟩

/-- A node: its text, its kids. -/
abbrev Ct := ByteArray × List Int

def okC (n : Ct) : Bool := decide (n.1.size = 0) || (allAtom n.1 && n.2.isEmpty)

/-- All kids of a list, one behind the other: the place behind them, the deepest one. -/
def WL (len : Nat) (rec : Nat → Option (Nat × Nat)) : List Int → Nat → Option (Nat × Nat)
  | [], nx => some (nx, 0)
  | k :: ks, nx => if k ≠ (nx : Int) ∨ len ≤ nx then none else
      match rec nx with
      | none => none
      | some (nx', d) => match WL len rec ks nx' with
        | none => none
        | some (e, d') => some (e, max d d')

/-- The place behind all that is below a node, and its depth. -/
def W (ns : List Ct) : Nat → Nat → Nat → Option (Nat × Nat)
  | 0, _, _ => none
  | f + 1, p, deep =>
    if 100 < deep ∨ okC (ns.getD p (.empty, [])) = false then none else
      match WL ns.length (fun nx => W ns f nx (deep + 1)) (ns.getD p (.empty, [])).2 (p + 1) with
      | none => none
      | some (e, d) => some (e, if (ns.getD p (.empty, [])).1.size = 0 then d + 1 else 0)

theorem WL_le {len : Nat} {rec : Nat → Option (Nat × Nat)} (hrec : ∀ nx e d, nx < len → rec nx = some (e, d) → nx < e ∧ e ≤ len) {ks : List Int} {nx e d : Nat} (hnx : nx ≤ len) (h : WL len rec ks nx = some (e, d)) : nx ≤ e ∧ e ≤ len := by
  induction ks generalizing nx e d with
  | nil => simp [WL] at h; omega
  | cons k ks ih =>
    rw [WL] at h
    split at h
    · cases h
    · rename_i hc
      have hc' : nx < len := by omega
      cases hr : rec nx with
      | none => rw [hr] at h; cases h
      | some q =>
        obtain ⟨nx', d1⟩ := q
        rw [hr] at h
        cases hl : WL len rec ks nx' with
        | none => simp [hl] at h
        | some q2 =>
          obtain ⟨e2, d2⟩ := q2
          simp [hl] at h
          obtain ⟨rfl, rfl⟩ := h
          have h1 := hrec nx nx' d1 hc' hr
          have h2 := ih (by omega) hl
          omega

theorem W_le {ns : List Ct} {f p deep e d : Nat} (hp : p < ns.length) (h : W ns f p deep = some (e, d)) : p < e ∧ e ≤ ns.length := by
  induction f generalizing p deep e d with
  | zero => simp [W] at h
  | succ f ih =>
    rw [W] at h
    split at h
    · cases h
    · cases hl : WL ns.length (fun nx => W ns f nx (deep + 1)) (ns.getD p (.empty, [])).2 (p + 1) with
      | none => rw [hl] at h; cases h
      | some q =>
        obtain ⟨e2, d2⟩ := q
        rw [hl] at h
        simp at h
        obtain ⟨rfl, -⟩ := h
        have := WL_le (fun nx e d hnx hr => ih hnx hr) (by omega) hl
        omega

/-- Lists that lack no kid any more fall off the top. -/
def dropF : List (List Int × Nat) → List (List Int × Nat)
  | [] => []
  | x :: r => if x.2 = x.1.length then dropF r else x :: r

def body (n : Ct) (st : List (List Int × Nat)) (dp : Nat) (K : List (List Int × Nat) → Nat → Option Nat) : Option Nat :=
  if 100 < st.length ∨ okC n = false then none
  else if n.1.size = 0 then K ((n.2, 0) :: st) (max dp (st.length + 1)) else K st (max dp st.length)

/-- Node by node: r nodes are left, from p on. -/
def M (ns : List Ct) : Nat → Nat → List (List Int × Nat) → Nat → Option Nat
  | 0, _, st, dp => if dropF st = [] then some dp else none
  | r + 1, p, st, dp => match dropF st with
    | [] => none
    | x :: t => if x.1.getD x.2 0 ≠ (p : Int) then none else body (ns.getD p (.empty, [])) ((x.1, x.2 + 1) :: t) dp (M ns r (p + 1))

theorem M_full (ns : List Ct) (r p : Nat) (ks : List Int) (st : List (List Int × Nat)) (dp : Nat) : M ns r p ((ks, ks.length) :: st) dp = M ns r p st dp := by
  cases r with
  | zero => simp [M, dropF]
  | succ r => simp only [M, dropF, if_pos]

theorem body_M {ns : List Ct} {f : Nat} : ∀ {p deep : Nat} {st : List (List Int × Nat)} {dp : Nat}, p < ns.length → ns.length - p ≤ f → st.length = deep →
    body (ns.getD p (.empty, [])) st dp (M ns (ns.length - (p + 1)) (p + 1)) = match W ns f p deep with | none => none | some (e, d) => M ns (ns.length - e) e st (max dp (deep + d)) := by
  induction f with
  | zero => intro p deep st dp h1 h2; omega
  | succ f ih =>
    intro p deep st dp hp hf hst
    subst hst
    rw [body, W]
    by_cases hc : 100 < st.length ∨ okC (ns.getD p (.empty, [])) = false
    · rw [if_pos hc, if_pos hc]
    rw [if_neg hc, if_neg hc]
    generalize hn : ns.getD p (.empty, []) = n at *
    have kids : ∀ (ks : List Int) (i nx dp : Nat), n.2.drop i = ks → i ≤ n.2.length → p < nx → nx ≤ ns.length → st.length + 1 ≤ dp →
        M ns (ns.length - nx) nx ((n.2, i) :: st) dp = match WL ns.length (fun nx => W ns f nx (st.length + 1)) ks nx with | none => none | some (e, d) => M ns (ns.length - e) e st (max dp (st.length + 1 + d)) := by
      intro ks
      induction ks with
      | nil =>
        intro i nx dp hd hi hnx hle hdp
        have hi' : i = n.2.length := by
          have := congrArg List.length hd
          simp at this; omega
        subst hi'
        rw [M_full]
        simp [WL, Nat.max_eq_left hdp]
      | cons k ks ihk =>
        intro i nx dp hd hi hnx hle hdp
        have hil : i < n.2.length := by
          have := congrArg List.length hd
          simp at this; omega
        have hg : n.2.getD i 0 = k := by
          have := congrArg (fun l => l.getD 0 0) hd
          simpa [List.getD] using this
        have hd' : n.2.drop (i + 1) = ks := by
          have := congrArg List.tail hd
          simpa using this
        have hdrop : dropF ((n.2, i) :: st) = (n.2, i) :: st := by
          rw [dropF, if_neg]; simp; omega
        rw [WL]
        by_cases hlen : ns.length ≤ nx
        · rw [if_pos (.inr hlen), show ns.length - nx = 0 by omega, M, hdrop]
          simp
        · obtain ⟨r, hr⟩ : ∃ r, ns.length - nx = r + 1 := ⟨ns.length - nx - 1, by omega⟩
          rw [hr, M, hdrop]
          simp only [hg]
          by_cases hk : k ≠ (nx : Int)
          · rw [if_pos hk, if_pos (.inl hk)]
          · rw [if_neg hk, if_neg (by omega)]
            have hr' : r = ns.length - (nx + 1) := by omega
            rw [hr']
            rw [ih (p := nx) (deep := st.length + 1) (st := (n.2, i + 1) :: st) (by omega) (by omega) (by simp)]
            cases hw : W ns f nx (st.length + 1) with
            | none => rfl
            | some q =>
              obtain ⟨e, d⟩ := q
              simp only []
              have hle2 := W_le (by omega) hw
              rw [ihk (i + 1) e (max dp (st.length + 1 + d)) hd' (by omega) (by omega) hle2.2 (by omega)]
              cases WL ns.length (fun nx => W ns f nx (st.length + 1)) ks e with
              | none => rfl
              | some q2 =>
                obtain ⟨e2, d2⟩ := q2
                simp only []
                congr 1
                omega
    by_cases hz : n.1.size = 0
    · rw [if_pos hz]
      rw [kids n.2 0 (p + 1) _ (by simp) (by omega) (by omega) (by omega) (by omega)]
      cases WL ns.length (fun nx => W ns f nx (st.length + 1)) n.2 (p + 1) with
      | none => rfl
      | some q =>
        obtain ⟨e, d⟩ := q
        simp only [hz, if_true]
        congr 1
        omega
    · have he : n.2 = [] := by
        have : ¬ okC n = false := fun h => hc (.inr h)
        simp [okC, hz] at this
        exact this.2
      rw [if_neg hz, he, WL]
      simp [hz]

/-- What a tree's depth is; -1 of one that is not right. -/
def depR (ns : List Ct) : Int :=
  if 1 ≤ ns.length ∧ ns.length ≤ 2000 then
    match W ns ns.length 0 0 with
    | none => -1
    | some (e, d) => if e = ns.length then (d : Int) else -1
  else -1

theorem depR_M (ns : List Ct) (h : 1 ≤ ns.length ∧ ns.length ≤ 2000) : depR ns = match body (ns.getD 0 (.empty, [])) [] 0 (M ns (ns.length - 1) 1) with | none => -1 | some d => (d : Int) := by
  have := body_M (ns := ns) (f := ns.length) (p := 0) (deep := 0) (st := []) (dp := 0) (by omega) (by omega) rfl
  rw [Nat.zero_add] at this
  rw [this, depR, if_pos h]
  cases hw : W ns ns.length 0 0 with
  | none => rfl
  | some q =>
    obtain ⟨e, d⟩ := q
    simp only []
    have hle := W_le (by omega) hw
    by_cases he : e = ns.length
    · subst he
      rw [if_pos rfl, Nat.sub_self, M]
      simp [dropF]
    · rw [if_neg he]
      obtain ⟨r, hr⟩ : ∃ r, ns.length - e = r + 1 := ⟨ns.length - e - 1, by omega⟩
      rw [hr, M]
      simp [dropF]

end Go.Proofs.Ytljcfokiocbgoaa

/- Declared variables as a plain list: names, widths, when they are right; and what a map from names to places holds. No program in sight. -/
namespace Go.Proofs.Ytljcfokiocbgoaa
set_option linter.unusedVariables false
set_option linter.unusedSimpArgs false
open Go.RowKit

def in64 (k : Int) : Prop := -9223372036854775808 ≤ k ∧ k ≤ 9223372036854775807

/-- A variable: its name, its width. -/
abbrev Dc := ByteArray × Int

def letB (c : Nat) : Bool := decide (97 ≤ c) && decide (c ≤ 122)
def digB (c : Nat) : Bool := decide (48 ≤ c) && decide (c ≤ 57)
def nmB (c : Nat) : Bool := letB c || digB c

def allNm (s : ByteArray) : Bool := (List.range s.size).all fun i => nmB (bn s i)
theorem allNm_iff (s : ByteArray) : allNm s = true ↔ ∀ i, i < s.size → nmB (bn s i) = true := by
  unfold allNm
  rw [List.all_eq_true]
  exact ⟨fun h i hi => h i (List.mem_range.2 hi), fun h i hi => h i (List.mem_range.1 hi)⟩

def nmOk (s : ByteArray) : Bool := decide (1 ≤ s.size) && decide (s.size ≤ 12) && letB (bn s 0) && allNm s
def dcOk (d : Dc) : Bool := nmOk d.1 && wOk d.2

def sumW : List Dc → Int
  | [] => 0
  | d :: ds => d.2 + sumW ds

theorem sumW_append (xs ys : List Dc) : sumW (xs ++ ys) = sumW xs + sumW ys := by
  induction xs with
  | nil => simp [sumW]
  | cons x xs ih => simp [sumW, ih]; omega

theorem sumW_take {ds : List Dc} {k : Nat} {d : Dc} (h : ds[k]? = some d) : sumW (ds.take (k + 1)) = sumW (ds.take k) + d.2 := by
  rw [List.take_add_one, h, sumW_append]
  simp [sumW]

theorem dcOk_iff {d : Dc} : dcOk d = true ↔ nmOk d.1 = true ∧ 1 ≤ d.2 ∧ d.2 ≤ 4096 := by simp [dcOk, wOk]

theorem sumW_le {ds : List Dc} (h : ∀ d ∈ ds, dcOk d = true) : 0 ≤ sumW ds ∧ sumW ds ≤ 4096 * ds.length := by
  induction ds with
  | nil => simp [sumW]
  | cons d ds ih =>
    have h1 := (dcOk_iff.1 (h d (by simp))).2
    have h2 := ih fun x hx => h x (List.mem_cons_of_mem _ hx)
    simp [sumW]
    omega

/-- Are the variables right? -/
def dclR (ds : List Dc) : Bool := decide (ds.length ≤ 60) && ds.all dcOk && decide (sumW ds ≤ 20000) && decide ((ds.map Prod.fst).Nodup)

theorem dclR_iff {ds : List Dc} : dclR ds = true ↔ ds.length ≤ 60 ∧ (∀ d ∈ ds, dcOk d = true) ∧ sumW ds ≤ 20000 ∧ (ds.map Prod.fst).Nodup := by
  simp only [dclR, Bool.and_eq_true, decide_eq_true_eq, List.all_eq_true]
  constructor
  · rintro ⟨⟨⟨h1, h2⟩, h3⟩, h4⟩; exact ⟨h1, h2, h3, h4⟩
  · rintro ⟨h1, h2, h3, h4⟩; exact ⟨⟨⟨h1, h2⟩, h3⟩, h4⟩

theorem dclR_long {ds : List Dc} (h : 60 < ds.length) : dclR ds = false := by
  rw [Bool.eq_false_iff]; intro h'; have := (dclR_iff.1 h').1; omega
theorem dclR_bad {ds : List Dc} {k : Nat} {d : Dc} (h : ds[k]? = some d) (hd : dcOk d = false) : dclR ds = false := by
  rw [Bool.eq_false_iff]; intro h'
  have := (dclR_iff.1 h').2.1 d (List.mem_of_getElem? h)
  rw [hd] at this; cases this

/-- A text as the key of a map. -/
def kyOf (s : ByteArray) : Lit := .string s.data.toList
theorem kyOf_inj {s t : ByteArray} (h : kyOf s = kyOf t) : s = t := by
  unfold kyOf at h
  injection h with h
  exact ByteArray.ext (Array.toList_inj.1 h)
theorem kyOf_ne {s t : ByteArray} (h : s ≠ t) : kyOf s ≠ kyOf t := fun h' => h (kyOf_inj h')

/-- What a map tells of the names l, each put with its place: each once. -/
structure Pl (D : DataW Unit) (l : List ByteArray) : Prop where
  tidy : Maps.Tidy D
  has : ∀ s, Maps.has D (kyOf s) = true ↔ s ∈ l
  le : Maps.size D ≤ l.length
  nodup : Maps.size D = l.length ↔ l.Nodup
  at_ : l.Nodup → ∀ (i : Nat) s, l[i]? = some s → ∀ z, D.atKey (kyOf s) z = .lit (.int .i64 (i : Int))

theorem Pl.start : Pl (.map [] : DataW Unit) [] where
  tidy := Maps.tidy_empty
  has := fun s => by simp [Maps.has_eq]
  le := by simp [Maps.size_eq]
  nodup := by simp [Maps.size_eq]
  at_ := by simp

theorem Pl.step {D : DataW Unit} {l : List ByteArray} (h : Pl D l) (s : ByteArray) (hk : WideAt.IsKeyLit (kyOf s)) : Pl (D.put (kyOf s) (.lit (.int .i64 (l.length : Int)))) (l ++ [s]) where
  tidy := h.tidy.put hk _
  has := fun t => by
    by_cases e : t = s
    · subst e
      rw [Maps.has_put_same h.tidy.isMap hk]; simp
    · rw [Maps.has_put_other (kyOf_ne e), h.has]; simp [e]
  le := by
    rw [Maps.size_put h.tidy, List.length_append]
    have := h.le
    split <;> simp <;> omega
  nodup := by
    rw [Maps.size_put h.tidy, List.length_append, List.nodup_append]
    have hle := h.le
    have hn := h.nodup
    by_cases e : s ∈ l
    · rw [if_pos ((h.has s).2 e)]
      constructor
      · intro h'; simp at h'; omega
      · rintro ⟨-, -, h'⟩; exact absurd rfl (h' s e s (by simp))
    · rw [if_neg (fun h' => e ((h.has s).1 h'))]
      constructor
      · intro h'
        simp at h'
        refine ⟨hn.1 h', by simp, fun a ha b hb => ?_⟩
        simp at hb; subst hb
        intro e'; subst e'; exact e ha
      · rintro ⟨h1, -, -⟩
        have := hn.2 h1
        simp; exact this
  at_ := fun hnd i t ht z => by
    have hnd' := List.nodup_append.1 hnd
    rw [List.getElem?_append] at ht
    split at ht
    · rename_i hi
      have e : t ≠ s := hnd'.2.2 t (List.mem_of_getElem? ht) s (by simp)
      rw [Maps.atKey_put_other (kyOf_ne e), h.at_ hnd'.1 i t ht]
    · have hj := (List.getElem?_eq_some_iff.1 ht).1
      simp at hj
      have hil : i = l.length := by omega
      subst hil
      simp at ht
      subst ht
      rw [Maps.atKey_put_same h.tidy.isMap hk]

end Go.Proofs.Ytljcfokiocbgoaa

/- Small lemmas on worlds that every text uses. -/
namespace Go.Proofs.Ytljcfokiocbgoaa
set_option linter.unusedVariables false
set_option linter.unusedSimpArgs false
open Go.RowKit

theorem kide {p : Prop} (h : p) : Hid p := h
/-- Behind a call that lets all old blocks be: all old cells read as before. -/
theorem kcell {W w1 : World} (hb : Below W.heap.size W w1) (b o : Nat) (h : b < W.heap.size) : w1.cell? ⟨b, o, none⟩ = W.cell? ⟨b, o, none⟩ := hb.cell (p := ⟨b, o, none⟩) h
theorem kundrew {B : Nat} {w w' : World} (h : Below B w.drew w') : Below B w w' := ⟨h.os, h.tape, h.output, h.size, h.block⟩
theorem kstr_ne {s t : ByteArray} (h : s ≠ t) : (s.toList == t.toList) = false := by
  rw [ByteArray.toList_eq, ByteArray.toList_eq, beq_eq_false_iff_ne]
  intro e
  exact h (ByteArray.ext (Array.toList_inj.1 e))
theorem krow {w : World} {g : Nat} {c : Array Value} {t : TypeId} (h : w.heap[g]? = some (.cells c t (0, 0))) : w.rowIs g t c.size (fun i => (c[i]?).getD undef) :=
  ⟨c, h, rfl, fun i hi => by simp [hi]⟩

end Go.Proofs.Ytljcfokiocbgoaa

/- A region that draws its order: loads of cells that the region itself writes in the end. What the loads read holds till one operation (the store) has come up; another condition holds behind it. -/
namespace Go.Proofs.Ytljcfokiocbgoaa
set_option linter.unusedVariables false
set_option linter.unusedSimpArgs false
open Go

section
variable {P : Program} {ops : Array Oper} {Q : Exit → Act → World → Prop} {md : Region.Mode} {SA SB : World → Prop} {k : Nat}

/-- What holds of the world while these are listed. -/
def Sx (SA SB : World → Prop) (k : Nat) (listed : Array Bool) (w : World) : Prop := if listed.getD k true = true then SB w else SA w

theorem Sx.before {listed : Array Bool} {w : World} (hk : listed.getD k true = false) (h : SA w) : Sx SA SB k listed w := by
  unfold Sx; rw [hk]; simpa using h
theorem Sx.behind {listed : Array Bool} {w : World} (hk : listed.getD k true = true) (h : SB w) : Sx SA SB k listed w := by
  unfold Sx; rw [hk]; simpa using h
theorem Sx.same {listed listed' : Array Bool} {w : World} (hk : listed'.getD k true = listed.getD k true) (h : Sx SA SB k listed w) : Sx SA SB k listed' w := by
  unfold Sx at *; rw [hk]; exact h

def wpAnyX (P : Program) (md : Region.Mode) (ops : Array Oper) (Q : Exit → Act → World → Prop) (SA SB : World → Prop) (k : Nat) : Nat → Array Bool → Act → World → Prop
  | 0, listed, a, w => Region.ready md ops listed = [] ∧ Q .normal a w
  | fuel + 1, listed, a, w =>
    (Region.ready md ops listed = [] → Q .normal a w) ∧
    ∀ i ∈ Region.ready md ops listed, wpOp P ops Q i (fun a' w' => Sx SA SB k (listed.setIfInBounds i true) w' ∧ wpAnyX P md ops Q SA SB k fuel (listed.setIfInBounds i true) a' w') a w

theorem wpAny_of_x : ∀ (fuel : Nat) (listed : Array Bool) (a : Act) (w : World), wpAnyX P md ops Q SA SB k fuel listed a w → wpAny P md ops Q fuel listed a w
  | 0, _, _, _, h => h
  | fuel + 1, _, _, _, h => ⟨h.1, fun i hi => wpOp_mono (fun a' w' h' => wpAny_of_x fuel _ a' w' h'.2) (h.2 i hi)⟩

/-- Number k waits for number i. -/
def waitsB (md : Region.Mode) (ops : Array Oper) (k i : Nat) : Bool := match ops[k]? with
  | some o => o.after.any (fun e => Region.binds md e && e.on == i)
  | none => false

theorem waits_not_ready {i : Nat} {listed : Array Bool} (hw : waitsB md ops k i = true) (hi : i ∈ Region.ready md ops listed) : ¬ k ∈ Region.ready md ops listed := by
  intro hk
  obtain ⟨-, o, ho, hall⟩ := mem_ready.1 hk
  unfold waitsB at hw
  rw [ho] at hw
  obtain ⟨e, he, h2⟩ := Array.any_eq_true'.1 hw
  simp only [Bool.and_eq_true, beq_iff_eq] at h2
  have h1 := hall e he h2.1
  have h0 := (mem_ready.1 hi).1
  rw [h2.2] at h1
  rcases Nat.lt_or_ge i listed.size with h' | h'
  · simp [h'] at h0 h1; rw [h0] at h1; cases h1
  · simp [Array.getElem?_eq_none h'] at h1

theorem wpAnyX_first {i : Nat} {oi : Oper} {v : Value} {T : World → Prop} (hi : ops[i]? = some oi) (hsel : ∀ (j : Nat) (o : Oper) cs b, ops[j]? = some o → o.op ≠ .select cs b)
    (hQ : ∀ c a w, Q (.panic c) (a.put oi.dst v) w → Q (.panic c) a w) (hik : i ≠ k) (hA : ∀ w, SA w → T w) :
    ∀ (fuel : Nat) (listed : Array Bool) (a : Act) (w : World),
      (∀ j oj, ops[j]? = some oj → j ≠ i → listed.getD j true = false → (∀ e ∈ oj.after, Region.binds md e = true → e.on ≠ i) → oi.apart ops oj = true) →
      i ∈ Region.ready md ops listed → YieldsIf P ops T oi v a → Sx SA SB k listed w → ((∀ w, SB w → T w) ∨ listed.getD k true = false ∧ waitsB md ops k i = true) →
      wpAnyX P md ops Q SA SB k fuel (listed.setIfInBounds i true) (a.put oi.dst v) w → wpAnyX P md ops Q SA SB k (fuel + 1) listed a w := by
  have tw : ∀ (listed : Array Bool) (w : World), Sx SA SB k listed w → ((∀ w, SB w → T w) ∨ listed.getD k true = false ∧ waitsB md ops k i = true) → T w := by
    intro listed w hS hB
    unfold Sx at hS
    rcases hB with hB | ⟨hB, -⟩
    · split at hS
      · exact hB w hS
      · exact hA w hS
    · rw [hB] at hS
      exact hA w (by simpa using hS)
  intro fuel
  induction fuel with
  | zero =>
    intro listed a w _ hr hy hS hB H
    refine ⟨fun h => (by rw [h] at hr; cases hr), fun j hj => ?_⟩
    by_cases hji : j = i
    · subst hji; exact hy.wpOp hi (tw _ _ hS hB) ⟨hS.same (getD_set_ne true hik), H⟩
    · have := ready_mono hj hji
      rw [H.1] at this
      cases this
  | succ fuel ih =>
    intro listed a w hfree hr hy hS hB H
    refine ⟨fun h => (by rw [h] at hr; cases hr), fun j hj => ?_⟩
    by_cases hji : j = i
    · subst hji; exact hy.wpOp hi (tw _ _ hS hB) ⟨hS.same (getD_set_ne true hik), H⟩
    · have h1 := H.2 j (ready_mono hj hji)
      obtain ⟨hjun, oj, hoj, hall⟩ := mem_ready.1 hj
      have hnot : ∀ e ∈ oj.after, Region.binds md e = true → e.on ≠ i := fun e he hb heq => by
        have h1 := hall e he hb
        have h0 := (mem_ready.1 hr).1
        rw [heq] at h1
        rcases Nat.lt_or_ge i listed.size with h' | h'
        · simp [h'] at h0 h1; rw [h0] at h1; cases h1
        · simp [Array.getElem?_eq_none h'] at h1
      have h2 := wpOp_putIf hoj (hfree j oj hoj hji hjun hnot) (fun cs b => hsel i oi cs b hi) (fun cs b => hsel j oj cs b hoj) hQ hy h1
      have hfree' : ∀ q oq, ops[q]? = some oq → q ≠ i → (listed.setIfInBounds j true).getD q true = false →
          (∀ e ∈ oq.after, Region.binds md e = true → e.on ≠ i) → oi.apart ops oq = true := fun q oq hq hqi hun hno => by
        refine hfree q oq hq hqi ?_ hno
        by_cases hjq : j = q
        · subst hjq; exact hjun
        · rw [getD_set_ne true hjq] at hun; exact hun
      have hB' : (∀ w, SB w → T w) ∨ (listed.setIfInBounds j true).getD k true = false ∧ waitsB md ops k i = true := by
        rcases hB with hB | ⟨hB1, hB2⟩
        · exact .inl hB
        · refine .inr ⟨?_, hB2⟩
          have hjk : j ≠ k := by
            rintro rfl
            exact waits_not_ready hB2 hr hj
          rw [getD_set_ne true hjk]; exact hB1
      have hS' : ∀ w', Sx SA SB k ((listed.setIfInBounds i true).setIfInBounds j true) w' → Sx SA SB k (listed.setIfInBounds j true) w' := fun w' h => by
        rw [Array.setIfInBounds_comm _ _ (Ne.symm hji)] at h
        exact h.same (getD_set_ne true hik).symm
      refine wpOp_mono (fun a' w' h3 => ⟨hS' w' h3.2.1, ih (listed.setIfInBounds j true) a' w' hfree' (ready_mono hr (Ne.symm hji)) h3.1 (hS' w' h3.2.1) hB' ?_⟩) h2
      rw [Array.setIfInBounds_comm _ _ hji]
      exact h3.2.2

/-- Take number i first, a load (or what looks at nothing): ahead of number k. -/
theorem wpAnyX_take {i : Nat} {oi : Oper} {v : Value} {fuel : Nat} {listed : Array Bool} {a : Act} {w : World} (hi : ops[i]? = some oi)
    (hs : Region.noSelect ops = true) (hf : Region.free md ops listed i = true) (hr : (Region.ready md ops listed).contains i = true)
    (hQ : ∀ c a w, Q (.panic c) (a.put oi.dst v) w → Q (.panic c) a w) (hik : i ≠ k) (hkl : listed.getD k true = false) (hw : waitsB md ops k i = true)
    (hS : SA w) (hy : YieldsIf P ops SA oi v a)
    (h : wpAnyX P md ops Q SA SB k fuel (listed.setIfInBounds i true) (a.put oi.dst v) w) : wpAnyX P md ops Q SA SB k (fuel + 1) listed a w :=
  wpAnyX_first (T := SA) hi (Region.noSelect_spec hs) hQ hik (fun _ h => h) fuel listed a w (Region.free_spec hi hf) (by simpa using hr) hy (Sx.before hkl hS) (.inr ⟨hkl, hw⟩) h

/-- .. what yields by either condition. -/
theorem wpAnyX_both {i : Nat} {oi : Oper} {v : Value} {T : World → Prop} {fuel : Nat} {listed : Array Bool} {a : Act} {w : World} (hi : ops[i]? = some oi)
    (hs : Region.noSelect ops = true) (hf : Region.free md ops listed i = true) (hr : (Region.ready md ops listed).contains i = true)
    (hQ : ∀ c a w, Q (.panic c) (a.put oi.dst v) w → Q (.panic c) a w) (hik : i ≠ k) (hA : ∀ w, SA w → T w) (hB : ∀ w, SB w → T w)
    (hS : Sx SA SB k listed w) (hy : YieldsIf P ops T oi v a)
    (h : wpAnyX P md ops Q SA SB k fuel (listed.setIfInBounds i true) (a.put oi.dst v) w) : wpAnyX P md ops Q SA SB k (fuel + 1) listed a w :=
  wpAnyX_first hi (Region.noSelect_spec hs) hQ hik hA fuel listed a w (Region.free_spec hi hf) (by simpa using hr) hy hS (.inl hB) h

def AllX (P : Program) (md : Region.Mode) (ops : Array Oper) (Q : Exit → Act → World → Prop) (SA SB : World → Prop) (k : Nat) (fuel : Nat) (listed : Array Bool) (a : Act) (w : World) (rs : List Nat) : Prop :=
  ∀ i ∈ rs, wpOp P ops Q i (fun a' w' => Sx SA SB k (listed.setIfInBounds i true) w' ∧ wpAnyX P md ops Q SA SB k fuel (listed.setIfInBounds i true) a' w') a w

theorem AllX.nil {fuel : Nat} {listed : Array Bool} {a : Act} {w : World} : AllX P md ops Q SA SB k fuel listed a w [] := fun _ h => by cases h

theorem AllX.cons {fuel : Nat} {listed : Array Bool} {a : Act} {w : World} {i : Nat} {o : Oper} {rs : List Nat} (ho : ops[i]? = some o)
    (h : ∀ K' : Act → World → Prop, (∀ a w, Sx SA SB k (listed.setIfInBounds i true) w → wpAnyX P md ops Q SA SB k fuel (listed.setIfInBounds i true) a w → K' a w) → if Region.wanted o (yielded ops a.tmps) = true then Oper.wp P o a w K' Q else K' (a.put o.dst undef) w)
    (hs : AllX P md ops Q SA SB k fuel listed a w rs) : AllX P md ops Q SA SB k fuel listed a w (i :: rs) := fun j hj => by
  rcases List.mem_cons.1 hj with rfl | hj
  · exact wpOp_step ho (fun K' hK => h K' (fun a w h1 h2 => hK a w ⟨h1, h2⟩))
  · exact hs j hj

theorem wpAnyX_ready {rs : List Nat} {fuel : Nat} {listed : Array Bool} {a : Act} {w : World} (hr : Region.ready md ops listed = rs) (hne : rs ≠ [])
    (h : AllX P md ops Q SA SB k fuel listed a w rs) : wpAnyX P md ops Q SA SB k (fuel + 1) listed a w :=
  ⟨fun h0 => absurd (hr ▸ h0) hne, hr ▸ h⟩

theorem wpAnyX_done {listed : Array Bool} {a : Act} {w : World} (hr : Region.ready md ops listed = []) (h : Q .normal a w) :
    ∀ fuel, wpAnyX P md ops Q SA SB k fuel listed a w
  | 0 => ⟨hr, h⟩
  | _ + 1 => ⟨fun _ => h, by rw [hr]; simp⟩

theorem wp_region_x {id : Nat} {a : Act} {w : World} (hm : P.follows .mixedOrders = true)
    (h : wpAnyX P .any ops Q SA SB k ops.size (Array.replicate ops.size false) a w.drew) : (Code.region id ops true).wp P Q a w :=
  wp_region_any hm (wpAny_of_x _ _ _ _ h)

end
end Go.Proofs.Ytljcfokiocbgoaa

/- Blocks of memory: what stays, what may change in its kind alone; words in new memory. -/
namespace Go.Proofs.Ytljcfokiocbgoaa
set_option linter.unusedVariables false
set_option linter.unusedSimpArgs false
open Go.RowKit

def Bz (u : World) (b : Nat) (cs : Array Value) (t : TypeId) : Prop := u.heap[b]? = some (.cells cs t (0, 0))
theorem Bz.lt {u : World} {b : Nat} {cs : Array Value} {t : TypeId} (h : Bz u b cs t) : b < u.heap.size := lt_of_block h
theorem Bz.new (u : World) (cs : Array Value) (t : TypeId) : Bz (u.alloc (.cells cs t)) u.heap.size cs t := heap_alloc_new _ _
theorem Bz.set {u : World} {b : Nat} {cs : Array Value} {t : TypeId} (h : Bz u b cs t) (o : Nat) (x : Value) : Bz (u.setCell ⟨b, o, none⟩ x) b (cs.setIfInBounds o x) t := heap_setCell_same u b o _ _ x h
theorem Bz.other {u : World} {b c : Nat} {cs : Array Value} {t : TypeId} (h : Bz u b cs t) (hn : b ≠ c) (o : Nat) (x : Value) : Bz (u.setCell ⟨c, o, none⟩ x) b cs t := by
  unfold Bz; rw [heap_setCell_other _ _ _ _ (by simpa using hn)]; exact h
theorem Bz.cell {u : World} {b : Nat} {cs : Array Value} {t : TypeId} (h : Bz u b cs t) (o : Nat) : u.cell? ⟨b, o, none⟩ = cs[o]? := cell_of_row u b o _ _ _ h
theorem Bz.froz {u : World} {b : Nat} {cs : Array Value} {t : TypeId} (h : Bz u b cs t) (o : Nat) : u.frozen? ⟨b, o, none⟩ = false := frozen_of_row u b o _ _ h
theorem Bz.later {u u' : World} {b : Nat} {cs : Array Value} {t : TypeId} (h : Bz u b cs t) (hb : Below u.heap.size u u') : Bz u' b cs t := by
  unfold Bz; rw [hb.block _ h.lt]; exact h

theorem share2 {F P : World → Nat → Prop} {G : Prop} (main : (∀ v b, F v b → P v b) → G) (key : ∀ v b, F v b → P v b) : G := main key

theorem own_ge {w : World} {B n : Nat} {e : TypeId} {v : Value} {xs : List Value} {b : Nat} (h : w.ownsRow B e 1 v n xs) (hb : v.ownBlock = some b) : B ≤ b := by
  rcases h.2 with ⟨rfl, -⟩ | ⟨g, cap, cur, rfl, hg, hh, -⟩
  · cases hb
  · cases hb
    exact hg

/-- But for the blocks from B1 on below B2 nothing has changed. -/
def Out (B1 B2 : Nat) (w w' : World) : Prop := w'.os = w.os ∧ w'.tape = w.tape ∧ w'.output = w.output ∧ w.heap.size ≤ w'.heap.size ∧ ∀ k, k < w.heap.size → (k < B1 ∨ B2 ≤ k) → w'.heap[k]? = w.heap[k]?
theorem Out.refl (B1 B2 : Nat) (w : World) : Out B1 B2 w w := ⟨rfl, rfl, rfl, Nat.le_refl _, fun _ _ _ => rfl⟩
theorem Out.trans {B1 B2 : Nat} {w w1 w2 : World} (h : Out B1 B2 w w1) (h' : Out B1 B2 w1 w2) : Out B1 B2 w w2 :=
  ⟨h'.1.trans h.1, h'.2.1.trans h.2.1, h'.2.2.1.trans h.2.2.1, Nat.le_trans h.2.2.2.1 h'.2.2.2.1, fun k hk ho => (h'.2.2.2.2 k (Nat.lt_of_lt_of_le hk h.2.2.2.1) ho).trans (h.2.2.2.2 k hk ho)⟩
theorem Out.grown {B1 B2 g : Nat} {w w' : World} (h : w.grownBy w' (some g)) (h1 : B1 ≤ g) (h2 : g < B2) : Out B1 B2 w w' := ⟨h.os, h.tape, h.output, h.size, fun k hk ho => h.block k hk (fun e => by cases e; omega)⟩
theorem Out.set {B1 B2 g o : Nat} {w w' : World} (h : Out B1 B2 w w') (h1 : B1 ≤ g) (h2 : g < B2) (v : Value) : Out B1 B2 w (w'.setCell ⟨g, o, none⟩ v) := by
  refine ⟨h.1, h.2.1, h.2.2.1, by simpa using h.2.2.2.1, fun k hk ho => ?_⟩
  rw [heap_setCell_other _ _ _ _ (by simp; omega)]
  exact h.2.2.2.2 k hk ho
theorem Out.below {B B1 B2 : Nat} {w w' : World} (h : Out B1 B2 w w') (hB : B ≤ B1) (hs : B ≤ w.heap.size) : Below B w w' := ⟨h.1, h.2.1, h.2.2.1, h.2.2.2.1, fun k hk => h.2.2.2.2 k (by omega) (.inl (by omega))⟩

/-- Of the same kind: numbers, texts and flags may be others. -/
def alike (v v' : Value) : Prop := v' = v ∨ (∃ k x y, v = .int k x ∧ v' = .int k y) ∨ (∃ x y, v = .string x ∧ v' = .string y) ∨ ∃ x y, v = .bool x ∧ v' = .bool y
theorem alike.trans {a b c : Value} (h : alike a b) (h' : alike b c) : alike a c := by
  rcases h with rfl | ⟨k, x, y, rfl, rfl⟩ | ⟨x, y, rfl, rfl⟩ | ⟨x, y, rfl, rfl⟩
  · exact h'
  · rcases h' with rfl | ⟨k', x', y', e, rfl⟩ | ⟨x', y', e, rfl⟩ | ⟨x', y', e, rfl⟩
    · exact .inr (.inl ⟨k, x, y, rfl, rfl⟩)
    · cases e
      exact .inr (.inl ⟨k, x, y', rfl, rfl⟩)
    · cases e
    · cases e
  · rcases h' with rfl | ⟨k', x', y', e, rfl⟩ | ⟨x', y', e, rfl⟩ | ⟨x', y', e, rfl⟩
    · exact .inr (.inr (.inl ⟨x, y, rfl, rfl⟩))
    · cases e
    · exact .inr (.inr (.inl ⟨x, y', rfl, rfl⟩))
    · cases e
  · rcases h' with rfl | ⟨k', x', y', e, rfl⟩ | ⟨x', y', e, rfl⟩ | ⟨x', y', e, rfl⟩
    · exact .inr (.inr (.inr ⟨x, y, rfl, rfl⟩))
    · cases e
    · cases e
    · exact .inr (.inr (.inr ⟨x, y', rfl, rfl⟩))
theorem alike.int {k : IntKind} {x : Int} {v : Value} (h : alike (.int k x) v) : ∃ y, v = .int k y := by
  rcases h with rfl | ⟨k', x', y', e, rfl⟩ | ⟨x', y', e, rfl⟩ | ⟨x', y', e, rfl⟩
  · exact ⟨x, rfl⟩
  · cases e; exact ⟨y', rfl⟩
  · cases e
  · cases e
theorem alike.str {x : ByteArray} {v : Value} (h : alike (.string x) v) : ∃ y, v = .string y := by
  rcases h with rfl | ⟨k', x', y', e, rfl⟩ | ⟨x', y', e, rfl⟩ | ⟨x', y', e, rfl⟩
  · exact ⟨x, rfl⟩
  · cases e
  · exact ⟨y', rfl⟩
  · cases e
theorem alike.slice {a : Option Addr} {n c : Nat} {v : Value} (h : alike (.slice a n c) v) : v = .slice a n c := by
  rcases h with rfl | ⟨k', x', y', e, rfl⟩ | ⟨x', y', e, rfl⟩ | ⟨x', y', e, rfl⟩
  · rfl
  · cases e
  · cases e
  · cases e

/-- Numbers alone have changed. -/
def Shp (w w' : World) : Prop := ∀ (b : Nat) (cur : Array Value) (t : TypeId), w.heap[b]? = some (.cells cur t (0, 0)) → ∃ cur', w'.heap[b]? = some (.cells cur' t (0, 0)) ∧ ∀ (i : Nat) (v : Value), cur[i]? = some v → ∃ v', cur'[i]? = some v' ∧ alike v v'
theorem Shp.refl (w : World) : Shp w w := fun _ cur _ h => ⟨cur, h, fun _ v hv => ⟨v, hv, .inl rfl⟩⟩
theorem Shp.trans {a b c : World} (h : Shp a b) (h' : Shp b c) : Shp a c := fun k cur t e => by
  obtain ⟨c1, e1, r1⟩ := h k cur t e
  obtain ⟨c2, e2, r2⟩ := h' k c1 t e1
  exact ⟨c2, e2, fun i v hv => by
    obtain ⟨v1, h1, a1⟩ := r1 i v hv
    obtain ⟨v2, h2, a2⟩ := r2 i v1 h1
    exact ⟨v2, h2, a1.trans a2⟩⟩
theorem Shp.put {w : World} {g o : Nat} {x y : Value} (h : w.cell? ⟨g, o, none⟩ = some x) (hxy : alike x y) : Shp w (w.setCell ⟨g, o, none⟩ y) := fun b cur t e => by
  by_cases eb : b = g
  · subst eb
    refine ⟨cur.setIfInBounds o y, heap_setCell_same w b o _ _ _ e, fun i v hv => ?_⟩
    by_cases ei : i = o
    · subst ei
      rw [cell_of_row w b i cur _ _ e] at h
      rw [h] at hv
      cases hv
      exact ⟨y, by rw [Array.getElem?_setIfInBounds_self_of_lt (Array.getElem?_eq_some_iff.1 h).1], hxy⟩
    · exact ⟨v, by rw [Array.getElem?_setIfInBounds_ne (fun h => ei h.symm)]; exact hv, .inl rfl⟩
  · exact ⟨cur, by rw [heap_setCell_other _ _ _ _ (by simpa using eb)]; exact e, fun i v hv => ⟨v, hv, .inl rfl⟩⟩
theorem Shp.set {w : World} {g o : Nat} {k : IntKind} {x : Int} (h : w.cell? ⟨g, o, none⟩ = some (.int k x)) (y : Int) : Shp w (w.setCell ⟨g, o, none⟩ (.int k y)) := Shp.put h (.inr (.inl ⟨k, x, y, rfl, rfl⟩))

/-- A row of n words in a block of words. -/
def TyW (w : World) (lo hi : Nat) (a : Option Addr) (n : Nat) : Prop := n ≤ 1048576 ∧ ∃ h cur, a = some ⟨h, 0, none⟩ ∧ lo ≤ h ∧ h < hi ∧ w.heap[h]? = some (.cells cur 94 (0, 0)) ∧ ∀ i, i < n → ∃ y : Int, cur[i]? = some (.int .u64 y)

theorem keep_int {cur cur' : Array Value} (r : ∀ (i : Nat) (v : Value), cur[i]? = some v → ∃ v', cur'[i]? = some v' ∧ alike v v') {i : Nat} {k : IntKind} (h : ∃ x : Int, cur[i]? = some (.int k x)) : ∃ x : Int, cur'[i]? = some (.int k x) := by
  obtain ⟨x, hx⟩ := h
  obtain ⟨v', h1, h2⟩ := r i _ hx
  obtain ⟨y, rfl⟩ := h2.int
  exact ⟨y, h1⟩
theorem TyW.shp {w w' : World} {lo hi n : Nat} {a : Option Addr} (h : TyW w lo hi a n) (hs : Shp w w') : TyW w' lo hi a n := by
  obtain ⟨h0, g, cur, e, h1, h2, h3, h4⟩ := h
  obtain ⟨cur', e', r⟩ := hs g cur _ h3
  exact ⟨h0, g, cur', e, h1, h2, e', fun i hi => keep_int r (h4 i hi)⟩

theorem keep_str {cur cur' : Array Value} (r : ∀ (i : Nat) (v : Value), cur[i]? = some v → ∃ v', cur'[i]? = some v' ∧ alike v v') {i : Nat} (h : ∃ x : ByteArray, cur[i]? = some (.string x)) : ∃ x : ByteArray, cur'[i]? = some (.string x) := by
  obtain ⟨x, hx⟩ := h
  obtain ⟨v', h1, h2⟩ := r i _ hx
  obtain ⟨y, rfl⟩ := h2.str
  exact ⟨y, h1⟩
theorem Shp.of {w w' : World} (hb : Below w.heap.size w w') : Shp w w' := fun b cur t e => ⟨cur, (hb.block b (lt_of_block e)).trans e, fun i v hv => ⟨v, hv, .inl rfl⟩⟩

set_option maxHeartbeats 1000000 in
/-- Words are marked, in memory of that kind. -/
theorem markU_ty (lo hi c n k : Nat) (a : Option Addr) (w : World) (h : TyW w lo hi a n) (hk : k + n ≤ 9000000000000000000) :
    Calls Try.prog 33 #[.slice a n c, .int .i64 (k : Int)] w fun e w' => e = .returned (.int .i64 ((k + n : Nat) : Int)) ∧ Shp w w' ∧ Out lo hi w w' := by
  obtain ⟨hn, g, cur, rfl, hl, hh, hc, hi'⟩ := h
  have H := kide (show TyW w lo hi (some ⟨g, 0, none⟩) n from ⟨hn, g, cur, rfl, hl, hh, hc, hi'⟩)
  clear hc hi'
  go_enter Try.func33, Try.ntmps33
  go_wp2_with fail
  go_loopw [1, 5] (fun q i wr => ∃ (j : Nat), j ≤ n ∧ i = .int .i64 (j : Int) ∧ q = .int .i64 ((k + j : Nat) : Int) ∧ Shp w wr ∧ Out lo hi w wr) (fun _ i _ => n - (intOf i).toNat)
  case atStart => exact ⟨0, Nat.zero_le _, rfl, rfl, Shp.refl _, Out.refl _ _ _⟩
  case round =>
    obtain ⟨j, hj, rfl, rfl, hs, ho⟩ := hrel
    have HS := kide hs
    have HO := kide ho
    by_cases hlt : j < n
    · obtain ⟨-, g', cu, e', -, -, hg, hc⟩ := H.out.shp hs
      cases e'
      obtain ⟨y0, hy0⟩ := hc j hlt
      have q0 : wr.cell? ⟨g, j, none⟩ = some (.int .u64 y0) := by rw [cell_of_row wr g j _ _ _ hg]; exact hy0
      have r0 := frozen_of_row wr g j _ _ hg
      obtain ⟨K, hK⟩ : ∃ K, k + j = K := ⟨_, rfl⟩
      rw [hK]
      have HK := kide hK
      have hKb : K < 9000000000000000000 := by omega
      have i0 : (j : Int) < (n : Int) := by omega
      have HS2 := kide (hs.trans (Shp.set q0 (K : Int)))
      have HO2 := kide (ho.set hl hh (.int .u64 (K : Int)) (o := j))
      clear hc hs ho hK hy0 hg
      go_wp2_with fail
      go_roundw
      case rel => exact ⟨j + 1, by omega, by go_num, by rw [show k + (j + 1) = K + 1 by have := HK.out; omega]; first | go_num | (simp; done), HS2.out, HO2.out⟩
      case measure => simp [intOf]; omega
    · have e : j = n := by omega
      subst e
      clear hs ho
      go_wp2_with fail
      go_ret
      exact ⟨rfl, HS.out, HO.out⟩

def OwW (w : World) (base : Nat) (v : Value) (xs : List Nat) : Prop := w.ownsRow base 94 1 v xs.length (u64s xs).toList

theorem OwW.nils (w : World) (base : Nat) : OwW w base (.slice none 0 0) [] := ⟨rfl, .inl ⟨rfl, rfl⟩⟩
theorem OwW.empty (w : World) (base g : Nat) (hg : g = w.heap.size) (h : base ≤ g) : OwW (w.alloc (.cells #[] 94)) base (.slice (some ⟨g, 0, Option.none⟩) 0 0) [] := by
  subst hg
  exact World.ownsRow_made w #[] 0 h (Nat.zero_le _) (by simp)

/-- A word's bits in new memory: a block of words whose first ones they are. -/
def Nw (w : World) (lo : Nat) (a : Option Addr) (xs : List Nat) : Prop :=
  (xs = [] ∧ ∀ x, a = some x → lo ≤ x.block ∧ x.off = 0 ∧ ∃ cur, w.heap[x.block]? = some (.cells cur 94 (0, 0))) ∨ ∃ g cur, a = some ⟨g, 0, none⟩ ∧ lo ≤ g ∧ w.heap[g]? = some (.cells cur 94 (0, 0)) ∧ ∀ i, i < xs.length → cur[i]? = some (.int .u64 ((xs.getD i 0 : Nat) : Int))

theorem OwW.shape {w : World} {base : Nat} {v : Value} {xs : List Nat} (h : OwW w base v xs) : ∃ a c, v = .slice a xs.length c ∧ Nw w base a xs := by
  obtain ⟨h1, ⟨rfl, h2⟩ | ⟨g, cap, cur, rfl, hg, hh, hc1, hc2, hsz, hcur⟩⟩ := h
  · have e := List.eq_nil_of_length_eq_zero h2
    subst e
    exact ⟨none, 0, rfl, .inl ⟨rfl, fun x e => by cases e⟩⟩
  · refine ⟨some ⟨g, 0, none⟩, cap, rfl, .inr ⟨g, cur, rfl, hg, hh, fun i hi => ?_⟩⟩
    have h3 : (cur.toList.take (xs.length * 1))[i]? = (u64s xs).toList[i]? := by rw [hcur]
    rw [List.getElem?_take, if_pos (by omega)] at h3
    simp only [Array.getElem?_toList] at h3
    rw [h3, u64s_get _ _ hi]

theorem Own.nw {w : World} {lo g : Nat} {xs : List Nat} (h : Own w g xs) (hg : lo ≤ g) : Nw w lo (some ⟨g, 0, none⟩) xs := .inr ⟨g, u64s xs, rfl, hg, h, fun i hi => u64s_get _ _ hi⟩

theorem Nw.rd {w : World} {lo : Nat} {a : Option Addr} {xs : List Nat} (h : Nw w lo a xs) (hl : xs.length ≤ 1048576) (hx : ∀ x ∈ xs, x < 18446744073709551616) : Rd w a xs := by
  refine ⟨hl, hx, ?_⟩
  rcases h with ⟨h1, -⟩ | ⟨g, cur, h1, -, h3, h4⟩
  · exact .inl h1
  · refine .inr ⟨g, 0, h1, fun i hi => ?_⟩
    rw [Nat.zero_add, cell_of_row w g i cur _ _ h3]
    exact h4 i hi

theorem Nw.mono {w : World} {lo lo' : Nat} {a : Option Addr} {xs : List Nat} (h : Nw w lo a xs) (hl : lo' ≤ lo) : Nw w lo' a xs := by
  rcases h with ⟨h1, h2⟩ | ⟨g, cur, h1, h2, h3, h4⟩
  · exact .inl ⟨h1, fun x e => ⟨Nat.le_trans hl (h2 x e).1, (h2 x e).2⟩⟩
  · exact .inr ⟨g, cur, h1, Nat.le_trans hl h2, h3, h4⟩

theorem Nw.kept {w w' : World} {lo : Nat} {a : Option Addr} {xs : List Nat} (h : Nw w lo a xs) (hk : ∀ (k : Nat) (cur : Array Value), w.heap[k]? = some (Obj.cells cur 94 (0, 0)) → w'.heap[k]? = w.heap[k]?) : Nw w' lo a xs := by
  rcases h with ⟨h1, h2⟩ | ⟨g, cur, h1, h2, h3, h4⟩
  · refine .inl ⟨h1, fun x e => ?_⟩
    obtain ⟨a, b, cur, c⟩ := h2 x e
    exact ⟨a, b, cur, by rw [hk _ _ c]; exact c⟩
  · exact .inr ⟨g, cur, h1, h2, by rw [hk _ _ h3]; exact h3, h4⟩

theorem Nw.later {w w' : World} {lo : Nat} {a : Option Addr} {xs : List Nat} (h : Nw w lo a xs) (hb : Below w.heap.size w w') : Nw w' lo a xs := Nw.kept h fun k cur hc => hb.block k (lt_of_block hc)

/-- 'append(out, list...)' of words at a step of a region that draws its order. -/
theorem step_appWs (w : World) {ops : Array Oper} {o : Oper} {a : Act} {K : Act → World → Prop} {Q : Exit → Act → World → Prop} {E : Prop} (hgd : o.guard = none) (s x : Operand)
    (ho : o.op = .call { callee := .builtin .append, args := #[s, x], argTypes := #[47, 47] })
    (base : Nat) (v : Value) (bs ys : List Nat) (hs : a.eval s = v) (hown : OwW w base v bs) (b ob c : Nat) (hx : a.eval x = .slice (some ⟨b, ob, none⟩) ys.length c)
    (hc : ∀ i, i < ys.length → w.cell? ⟨b, ob + i, none⟩ = some (.int .u64 ((ys.getD i 0 : Nat) : Int))) (hl : bs.length + ys.length ≤ 4194304) (hbase : base ≤ w.heap.size)
    (h : ∀ v' w', OwW w' base v' (bs ++ ys) → w.grownBy w' v.ownBlock → K (a.put o.dst v') w') :
    if Region.wanted o (yielded ops a.tmps) = true then Oper.wp Try.prog o a w K Q else E := by
  have hw : Region.wanted o (yielded ops a.tmps) = true := by simp [Region.wanted, hgd]
  rw [if_pos hw]
  obtain ⟨i0, hi, hz0, hz1, hz2⟩ := info_parts Try.infoU64
  refine wp_append_own w s x 47 ho base 94 i0 (.int .u64 0) 1 8 Try.underlying47 hi hz0 hz1 hz2 rfl (by decide) v bs.length (u64s bs).toList hs hown ⟨b, ob, none⟩ ys.length c (u64s ys).toList hx (by simp [u64s]) ?_ ?_ ?_ ?_ hbase ?_
  · intro j u hj
    have hj' : j < ys.length := by
      have := (List.getElem?_eq_some_iff.1 hj).1
      simpa [u64s] using this
    rw [Addr.add_lit, hc j hj']
    simp [u64s, hj'] at hj
    rw [← hj]
    simp [List.getD, hj']
  · intro u hu
    simp [u64s] at hu
    obtain ⟨_, _, rfl⟩ := hu
    rfl
  · unfold maxLen; omega
  · omega
  · intro v' w' h1 h2 _
    refine h v' w' ?_ h2
    unfold OwW
    simpa [u64s] using h1

theorem nw_set {w : World} {lo β : Nat} {a : Option Addr} {xs : List Nat} {cs : Array Value} {t : TypeId} (h : Nw w lo a xs) (hB : Bz w β cs t) (ht : t ≠ 94) (i : Nat) (v : Value) : Nw (w.setCell ⟨β, i, none⟩ v) lo a xs :=
  Nw.kept h fun k cur hc => heap_setCell_other _ _ _ _ (fun e => by
    simp only [] at e
    subst e
    unfold Bz at hB
    rw [hB] at hc
    cases hc
    exact ht rfl)

theorem nw_lt {w : World} {lo : Nat} {a : Option Addr} {xs : List Nat} (h : Nw w lo a xs) {p : Addr} (hp : a = some p) : lo ≤ p.block ∧ p.block < w.heap.size := by
  rcases h with ⟨h1, h2⟩ | ⟨g, cur, h1, h2, h3, h4⟩
  · obtain ⟨k1, -, cur, k2⟩ := h2 p hp
    exact ⟨k1, lt_of_block k2⟩
  · rw [h1] at hp
    cases hp
    exact ⟨h2, lt_of_block h3⟩

end Go.Proofs.Ytljcfokiocbgoaa
