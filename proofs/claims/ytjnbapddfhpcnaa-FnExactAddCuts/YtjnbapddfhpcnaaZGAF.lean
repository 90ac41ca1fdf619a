/- Several texts in one. -/
import Derived.Test.YtjnbapddfhpcnaaZGAD
import Derived.Test.YtjnbapddfhpcnaaZGAE
import Derived.Maps.OwnSet
import Derived.DeepKeys4
import Derived.Deep.AppendLies
import Derived.Test.YtjnbapddfhpcnaaZGAI

/- What the laws on variables and cuts have in common: the boxes of the cuts. -/
namespace Go.Proofs.Ytjnbapddfhpcnaa
set_option linter.unusedVariables false
set_option linter.unusedSimpArgs false
open Go.RowKit

/-- A call's own box of one cell still stands. -/
def Bq (w : World) (v : Value) (t : TypeId) (wk : World) : Prop := Below (w.heap.size + 1) (w.alloc (Obj.cells #[v] t)) wk
theorem Bq.start (w : World) (v : Value) (t : TypeId) : Bq w v t (w.alloc (Obj.cells #[v] t)) := Below.refl _ _
theorem Bq.size {w wk : World} {v : Value} {t : TypeId} (h : Bq w v t wk) : w.heap.size + 1 ≤ wk.heap.size := by have := Below.size h; simpa using this
theorem Bq.next {w wk w1 : World} {v : Value} {t : TypeId} (h : Bq w v t wk) (hb : Below wk.heap.size wk w1) : Bq w v t w1 := Below.trans h (hb.mono h.size)
theorem Bq.below {w wk : World} {v : Value} {t : TypeId} (h : Bq w v t wk) : Below w.heap.size w wk := Below.trans (Below.alloc (Below.refl _ _) (Nat.le_refl _) _) (Below.mono h (by omega))
theorem Bq.cell {w wk : World} {v : Value} {t : TypeId} (h : Bq w v t wk) : wk.cell? ⟨w.heap.size, 0, none⟩ = some v := by
  rw [Below.cell h (by simp)]; simp

theorem len_of_ks {ms xs : List Iw} {n : Nat} (h : ms.map Iw.ks = xs.map Iw.ks) (hn : xs.length = n) : ms.length = n := by
  have := congrArg List.length h
  simp at this
  rw [this]; exact hn

/-- The sizes of the two arguments: what is left behind both. -/
theorem sizes_cuts (a b : Option Addr) (n c n2 c2 : Nat) (w : World) (hn : n ≤ 9223372036854775807) (hn2 : n2 ≤ 9223372036854775807)
    (hx : n ≤ 1048576 → ∃ ds : List Dc, ds.length = n ∧ RdD w a ds) (hy : n2 ≤ 1048576 → ∃ hs : List Ih, hs.length = n2 ∧ RdIh w b hs ∧ ∀ h ∈ hs, NumsOf w h) :
    ∃ Z Z2 : Int, (∀ u, Below w.heap.size w u → Calls Try.prog 4 #[.slice a n c, .int .i64 1048576] u fun e w' => e = .returned (.int .i64 Z) ∧ Below u.heap.size u w') ∧
      (0 ≤ Z → ∀ u, Below w.heap.size w u → Calls Try.prog 5 #[.agg #[.slice b n2 c2], .int .i64 Z] u fun e w' => e = .returned (.int .i64 Z2) ∧ Below u.heap.size u w') ∧
      (0 ≤ Z → 0 ≤ Z2 → ∃ (ds : List Dc) (xs : List Iw), ds.length = n ∧ xs.length = n2 ∧ RdD w a ds ∧ RdII w b xs) := by
  by_cases h : n ≤ 1048576
  · obtain ⟨ds, rfl, hr⟩ := hx h
    have hZ := szD_range ds (1048576 - ds.length) (by omega)
    have hSZ := fun u (hu : Below w.heap.size w u) => szDeclS_in a c ds 1048576 u (hr.later hu) (by omega) (by omega) (by omega)
    generalize szD ds (1048576 - ds.length) = Z at *
    by_cases hz : Z < 0
    · exact ⟨Z, 0, hSZ, fun h' => by omega, fun h' => by omega⟩
    have hz0 : 0 ≤ Z := by omega
    have hz1 : Z ≤ 1048576 := by omega
    by_cases h2 : (n2 : Int) ≤ Z
    · obtain ⟨hs, rfl, hh, hk⟩ := hy (by omega)
      have hZ2 := szIl_range hs (Z - hs.length) (by omega)
      refine ⟨Z, szIl hs (Z - hs.length), hSZ, fun _ u hu => szCuts_any b _ c2 Z _ u (by omega) (fun u' hu' => szInt64SS_in b c2 hs Z u' (hh.later (hu.trans (hu'.mono hu.size))) hz0 hz1 h2), fun _ hz2 => ?_⟩
      obtain ⟨xs, hxl, hxs⟩ := RdII_of hh hk (L := Z - hs.length) (by omega) (by omega) hz2
      exact ⟨ds, xs, rfl, hxl, hr, hxs⟩
    · refine ⟨Z, -1, hSZ, fun _ u hu => szCuts_any b _ c2 Z _ u (.inl rfl) (fun u' hu' => (szInt64SS_out b n2 c2 Z u' hz0 hz1 hn2 h2).mono (fun e w' hh => ⟨hh.1, by rw [hh.2]; exact Below.refl _ _⟩)), fun _ h' => by omega⟩
  · exact ⟨-1, 0, fun u hu => (szDeclS_out a n c 1048576 u (by omega) (by omega) hn (by omega)).mono (fun e w' hh => ⟨hh.1, by rw [hh.2]; exact Below.refl _ _⟩), fun h' => by omega, fun h' => by omega⟩

end Go.Proofs.Ytjnbapddfhpcnaa

/- Places as keys of a map: what a set of them tells. -/
namespace Go.Proofs.Ytjnbapddfhpcnaa
set_option linter.unusedVariables false
set_option linter.unusedSimpArgs false
open Go.RowKit Go.WideMaps Go.Maps

theorem clawid : laidOutB Try.prog = true := by kernel_rfl
theorem crow : (58 : TypeId) < Try.prog.types.size := of_decide_eq_true (by kernel_rfl)
theorem cwide : (match Try.prog.underlying 58 with | some (.array _ _) | some (.struct _) => true | _ => false) = true := by kernel_rfl
set_option maxRecDepth 100000 in
theorem cutLaw : KeyLaw Try.prog 58 := deep_law_laid clawid (m := 3) (by omega) crow (by kernel_rfl) cwide
theorem cutKeyed : Keyed Try.prog 58 := Keyed.of_law cutLaw
theorem cpos {a b : Nat} (h : a < b) : ∃ m, b = m + 1 := ⟨b - 1, by omega⟩
theorem csize : ∃ m, Try.prog.types.size = m + 1 := cpos crow
theorem ckey : Try.prog.keyType 58 = true := by kernel_rfl
theorem cc64 : Try.prog.cellsOf 2 = 1 := by kernel_rfl
theorem ccells : Try.prog.cellsOf 58 = 2 := by kernel_rfl

/-- A place: its variable, and where in it. -/
abbrev Cp := Int × Int
def pv (p : Cp) : Value := .agg #[.int .i64 p.1, .int .i64 p.2]
def okP (p : Cp) : Prop := in64 p.1 ∧ in64 p.2

theorem keyOf_pl {p : Cp} (h : okP p) : ∃ l, keyOf Try.prog 58 (pv p) = some l := by
  have hu := Try.underlying58
  have h1 := Try.underlying2
  have hx := WalkArith.wf_i64 h.1
  have hy := WalkArith.wf_i64 h.2
  unfold pv
  have hf : (Value.agg #[.int .i64 p.1, .int .i64 p.2]).formed Try.prog 58 = true := by simp [Value.formed, hu, ccells]
  obtain ⟨m, hm⟩ := csize
  unfold keyOf
  simp only [hu, ckey, hf, Bool.and_self, if_true]
  rw [hm]
  simp [Program.keyLits, hu, ccells, h1, cc64, hx, hy, Value.cells]

theorem pv_inj {p q : Cp} {l : Lit} (h : keyOf Try.prog 58 (pv p) = some l) (h' : keyOf Try.prog 58 (pv q) = some l) : p = q := by
  have e := cutLaw.inj h h'
  unfold pv at e
  simp at e
  exact Prod.ext e.1 e.2

set_option maxRecDepth 10000 in
theorem keyOf_pl_inv {key : Value} {kl : Lit} (h : keyOf Try.prog 58 key = some kl) : ∃ p : Cp, key = pv p ∧ okP p := by
  have hu := Try.underlying58
  have h1 := Try.underlying2
  obtain ⟨m, hm⟩ := csize
  unfold keyOf at h
  simp only [hu, ckey, Bool.true_and] at h
  split at h
  · rename_i hf
    have hc : key.cells.size = 2 ∧ ∃ vs, key = .agg vs := by
      cases key <;> simp [Value.formed, hu, ccells] at hf
      exact ⟨by simpa [Value.cells] using hf, _, rfl⟩
    obtain ⟨hc, vs, rfl⟩ := hc
    have hc2 : vs.size = 2 := by simpa [Value.cells] using hc
    obtain ⟨a, b, rfl⟩ : ∃ a b, vs = #[a, b] := by
      obtain ⟨l⟩ := vs
      have hl : l.length = 2 := hc2
      obtain _ | ⟨a, _ | ⟨b, _ | ⟨c, l⟩⟩⟩ := l <;> simp at hl
      exact ⟨a, b, rfl⟩
    rw [hm] at h
    simp only [Program.keyLits, hu] at h
    cases a
    case int k x =>
      cases b
      case int k2 y =>
        simp [Program.keyLits, ccells, h1, cc64, Value.cells] at h
        by_cases c1 : k = IntKind.i64 ∧ (Lit.int IntKind.i64 x).wf = true
        · by_cases c2 : k2 = IntKind.i64 ∧ (Lit.int IntKind.i64 y).wf = true
          · obtain ⟨rfl, hx⟩ := c1
            obtain ⟨rfl, hy⟩ := c2
            refine ⟨(x, y), rfl, ?_, ?_⟩
            · simpa [Lit.wf, in64, IntKind.min, IntKind.max, IntKind.signed, IntKind.bits] using hx
            · simpa [Lit.wf, in64, IntKind.min, IntKind.max, IntKind.signed, IntKind.bits] using hy
          · simp [if_pos c1, if_neg c2] at h
        · simp [if_neg c1] at h
      all_goals (simp [Program.keyLits, ccells, h1, cc64, Value.cells] at h)
    all_goals (simp [Program.keyLits, ccells, h1, cc64, Value.cells] at h)
  · cases h

/-- What a map tells of the places l. -/
structure Sk (D : DataW Unit) (l : List Cp) : Prop where
  tidy : Maps.Tidy D
  ok : ∀ s ∈ l, okP s
  has : ∀ s kl, okP s → keyOf Try.prog 58 (pv s) = some kl → (Maps.has D kl = true ↔ s ∈ l)

theorem Sk.start : Sk (.map [] : DataW Unit) [] where
  tidy := Maps.tidy_empty
  ok := by simp
  has := fun s kl _ _ => by simp [Maps.has_eq]

theorem Sk.step {D : DataW Unit} {l : List Cp} (h : Sk D l) {s : Cp} {kl : Lit} (hs : okP s) (hk : keyOf Try.prog 58 (pv s) = some kl) : Sk (D.put kl (.agg [])) (l ++ [s]) where
  tidy := h.tidy.put (cutKeyed.key hk) _
  ok := fun t ht => by
    rcases List.mem_append.1 ht with ht | ht
    · exact h.ok t ht
    · simp at ht; subst ht; exact hs
  has := fun t kt ht hkt => by
    by_cases e : t = s
    · subst e
      have : kt = kl := Option.some.inj (hkt.symm.trans hk)
      subst this
      rw [Maps.has_put_same h.tidy.isMap (cutKeyed.key hk)]; simp
    · have hne : kt ≠ kl := fun e' => e (by subst e'; exact pv_inj hkt hk)
      rw [Maps.has_put_other hne, h.has t kt ht hkt]; simp [e]

/-- The keys that have come: each once. -/
structure Col (D : DataW Unit) (left : Lit → Bool) (ss : List Cp) : Prop where
  nd : ss.Nodup
  ok : ∀ s ∈ ss, okP s
  mem : ∀ s kl, okP s → keyOf Try.prog 58 (pv s) = some kl → (s ∈ ss ↔ (Maps.has D kl = true ∧ left kl = false))
theorem Col.start (D : DataW Unit) : Col D (Maps.has D) [] := ⟨List.nodup_nil, by simp, fun s kl _ _ => by cases Maps.has D kl <;> simp⟩
theorem Col.step {D : DataW Unit} {left : Lit → Bool} {ss : List Cp} (h : Col D left ss) {s : Cp} {kl : Lit} {y : DataW Unit} (hs : okP s) (hk : keyOf Try.prog 58 (pv s) = some kl) (hlk : left kl = true) (hat : ∀ zd, D.atKey kl zd = y) : Col D (fun z => left z && !z.sameKey kl) (ss ++ [s]) := by
  have hhas : Maps.has D kl = true := has_true_of_atKey hat
  have hnew : s ∉ ss := fun hx => by have := ((h.mem s kl hs hk).1 hx).2; rw [hlk] at this; cases this
  refine ⟨List.nodup_append.2 ⟨h.nd, by simp, fun a ha b hb => by simp at hb; subst hb; exact fun e => hnew (e ▸ ha)⟩, fun t ht => ?_, fun t kt ht hkt => ?_⟩
  · rcases List.mem_append.1 ht with ht | ht
    · exact h.ok t ht
    · simp at ht; subst ht; exact hs
  · by_cases e : t = s
    · subst e
      have : kt = kl := Option.some.inj (hkt.symm.trans hk)
      subst this
      simp [hhas, WideAt.sameKey_self (cutKeyed.key hk)]
    · have hne : kt ≠ kl := fun e' => e (by subst e'; exact pv_inj hkt hk)
      have hsk : kt.sameKey kl = false := sameKey_ne hne
      simp [h.mem t kt ht hkt, e, hsk]

end Go.Proofs.Ytjnbapddfhpcnaa

/- Rows of slices: what they are, how they grow. -/
namespace Go.Proofs.Ytjnbapddfhpcnaa
set_option linter.unusedVariables false
set_option linter.unusedSimpArgs false
open Go.RowKit

/-- A slice of a variable: the variable, the place, the width. -/
abbrev Sl := Int × Int × Int

def scl (s : Sl) : List Value := [.int .i64 s.1, .int .i64 s.2.1, .int .i64 s.2.2]
def scs (ss : List Sl) : List Value := ss.flatMap scl

theorem scs_len (ss : List Sl) : (scs ss).length = ss.length * 3 := by
  induction ss with
  | nil => rfl
  | cons s t ih =>
    have e : scs (s :: t) = scl s ++ scs t := by simp [scs]
    rw [e, List.length_append, ih]
    simp [scl]; omega
theorem scs_append (a b : List Sl) : scs (a ++ b) = scs a ++ scs b := by simp [scs]

/-- The slices of a variable, from a place on. -/
def slV (v : Nat) (W : Int) : Int → List Int → List Sl
  | lo, [] => [((v : Int), lo, W - lo)]
  | lo, c :: t => ((v : Int), lo, c - lo) :: slV v W c t

/-- .. of all variables, from the v-th on. -/
def slR : List Dc → List (List Int) → Nat → List Sl
  | d :: ds, c :: cs, v => slV v d.2 0 c ++ slR ds cs (v + 1)
  | _, _, _ => []

theorem slR_step {ds : List Dc} {cs : List (List Int)} {k : Nat} {d : Dc} {c : List Int} (h1 : ds[k]? = some d) (h2 : cs[k]? = some c) :
    slR (ds.drop k) (cs.drop k) k = slV k d.2 0 c ++ slR (ds.drop (k + 1)) (cs.drop (k + 1)) (k + 1) := by
  have l1 := (List.getElem?_eq_some_iff.1 h1).1
  have l2 := (List.getElem?_eq_some_iff.1 h2).1
  rw [List.drop_eq_getElem_cons l1, List.drop_eq_getElem_cons l2, slR]
  rw [List.getElem?_eq_getElem l1] at h1
  rw [List.getElem?_eq_getElem l2] at h2
  cases h1
  cases h2
  rfl

theorem slV_step {v : Nat} {W lo : Int} {ks : List Int} {j : Nat} (h : j < ks.length) : slV v W lo (ks.drop j) = ((v : Int), lo, ks.getD j 0 - lo) :: slV v W (ks.getD j 0) (ks.drop (j + 1)) := by
  rw [List.drop_eq_getElem_cons h, slV]
  simp [List.getD, h]
theorem slV_len (v : Nat) (W lo : Int) (ks : List Int) : (slV v W lo ks).length = ks.length + 1 := by
  induction ks generalizing lo with
  | nil => rfl
  | cons k t ih => simp [slV, ih]

theorem slR_len (ds : List Dc) (cs : List (List Int)) (v N : Nat) (h : ∀ c ∈ cs, c.length + 1 ≤ N) : (slR ds cs v).length ≤ ds.length * N := by
  induction ds generalizing cs v with
  | nil => simp [slR]
  | cons d ds ih =>
    cases cs with
    | nil => simp [slR]
    | cons c cs =>
      rw [slR, List.length_append, slV_len]
      have h1 := h c (by simp)
      have h2 := ih cs (v + 1) (fun x hx => h x (List.mem_cons_of_mem _ hx))
      rw [List.length_cons, Nat.succ_mul]
      omega

end Go.Proofs.Ytjnbapddfhpcnaa

/- Contracts of the laws' own small functions on rows of slices: compared, marked, held. -/
namespace Go.Proofs.Ytjnbapddfhpcnaa
set_option linter.unusedVariables false
set_option linter.unusedSimpArgs false
open Go.RowKit

def SlAt (w : World) (b o : Nat) (s : Sl) : Prop := w.cell? ⟨b, o, none⟩ = some (.int .i64 s.1) ∧ w.cell? ⟨b, o + 1, none⟩ = some (.int .i64 s.2.1) ∧ w.cell? ⟨b, o + 2, none⟩ = some (.int .i64 s.2.2)
theorem SlAt.later {w w' : World} {b o : Nat} {s : Sl} (h : SlAt w b o s) (hb : Below w.heap.size w w') : SlAt w' b o s := by
  have l := block_lt_of_cell h.1
  exact ⟨by rw [kcell hb _ _ l]; exact h.1, by rw [kcell hb _ _ l]; exact h.2.1, by rw [kcell hb _ _ l]; exact h.2.2⟩

/-- A slice whose elements are ss, wherever it lies. -/
def RdL (w : World) (a : Option Addr) (ss : List Sl) : Prop := ss.length ≤ 1073741824 ∧ (ss = [] ∨ ∃ b o, a = some ⟨b, o, none⟩ ∧ ∀ i s, ss[i]? = some s → SlAt w b (o + i * 3) s)

theorem scs_get {ss : List Sl} {i : Nat} {s : Sl} (h : ss[i]? = some s) : (scs ss)[i * 3]? = some (.int .i64 s.1) ∧ (scs ss)[i * 3 + 1]? = some (.int .i64 s.2.1) ∧ (scs ss)[i * 3 + 2]? = some (.int .i64 s.2.2) := by
  induction ss generalizing i with
  | nil => simp at h
  | cons x t ih =>
    have e : scs (x :: t) = scl x ++ scs t := by simp [scs]
    rw [e]
    cases i with
    | zero =>
      simp at h
      subst h
      simp [scl]
    | succ i =>
      simp at h
      have := ih h
      have l3 : (scl x).length = 3 := rfl
      refine ⟨?_, ?_, ?_⟩
      · rw [List.getElem?_append_right (by rw [l3]; omega), l3, show (i + 1) * 3 - 3 = i * 3 by omega]; exact this.1
      · rw [List.getElem?_append_right (by rw [l3]; omega), l3, show (i + 1) * 3 + 1 - 3 = i * 3 + 1 by omega]; exact this.2.1
      · rw [List.getElem?_append_right (by rw [l3]; omega), l3, show (i + 1) * 3 + 2 - 3 = i * 3 + 2 by omega]; exact this.2.2

theorem grow_set {w wr : World} {g : Nat} (h : w.grownBy wr (some g)) (i : Nat) (v : Value) : w.grownBy (wr.setCell ⟨g, i, none⟩ v) (some g) :=
  ⟨h.os, h.tape, h.output, by simpa using h.size, fun k hk hne => by rw [heap_setCell_other wr ⟨g, i, none⟩ k v (fun e => hne (by simp [e]))]; exact h.block k hk hne⟩

/-- The row bears the marks from k on. -/
def MkS (w : World) (a : Option Addr) (n k : Nat) : Prop := n = 0 ∨ ∃ g, a = some ⟨g, 0, none⟩ ∧ ∀ i, i < n * 3 → w.cell? ⟨g, i, none⟩ = some (.int .i64 ((k + i : Nat) : Int))

theorem MkS.later {w w' : World} {a : Option Addr} {n k : Nat} (h : MkS w a n k) (hb : Below w.heap.size w w') : MkS w' a n k := by
  rcases h with h | ⟨g, rfl, hc⟩
  · exact .inl h
  · exact .inr ⟨g, rfl, fun i hi => by rw [kcell hb _ _ (block_lt_of_cell (hc i hi))]; exact hc i hi⟩

end Go.Proofs.Ytjnbapddfhpcnaa

/- Declared variables marked. -/
namespace Go.Proofs.Ytjnbapddfhpcnaa
set_option linter.unusedVariables false
set_option linter.unusedSimpArgs false
open Go.RowKit

theorem toDeclS_row (a : Option Addr) (c : Nat) (ds : List Dc) (w : World) (hr : RdD w a ds) :
    Calls Try.prog 7 #[.slice a ds.length c] w fun e w' => e = .returned (.slice (some ⟨w.heap.size, 0, none⟩) ds.length ds.length) ∧ RdD w' (some ⟨w.heap.size, 0, none⟩) ds ∧ (∃ f, w'.rowIs w.heap.size 49 (ds.length * 2) f) ∧ Below w.heap.size w w' := by
  have hlen := hr.1
  have hmk := make_decls ds.length hlen
  go_enter Try.func7, Try.ntmps7
  go_wp2_with fail
  have hrow := krow (heap_alloc_new w (.cells (madeCells #[.string .empty, .int .i64 0] (ds.length * 2)) 49))
  rw [size_madeCells] at hrow
  have hb0 : Below w.heap.size w (w.alloc (.cells (madeCells #[.string .empty, .int .i64 0] (ds.length * 2)) 49)) := (Below.refl _ _).alloc (Nat.le_refl _) _
  have hs0 : w.heap.size < (w.alloc (.cells (madeCells #[.string .empty, .int .i64 0] (ds.length * 2)) 49)).heap.size := by simp
  generalize (w.alloc (.cells (madeCells #[.string .empty, .int .i64 0] (ds.length * 2)) 49)) = w0 at *
  go_loopw [4] (fun i wr => ∃ (k : Nat) (f : Nat → Value), k ≤ ds.length ∧ i = .int .i64 k ∧ wr.rowIs w.heap.size 49 (ds.length * 2) f ∧ (∀ (j : Nat) (d : Dc), j < k → ds[j]? = some d → f (j * 2) = .string d.1 ∧ f (j * 2 + 1) = .int .i64 d.2) ∧ Below w.heap.size w wr ∧ w.heap.size < wr.heap.size) (fun i _ => ds.length - (intOf i).toNat)
  case atStart => exact ⟨0, _, Nat.zero_le _, rfl, hrow, fun j d h => by omega, hb0, hs0⟩
  case round =>
    obtain ⟨k, f, hk, rfl, hrw, hms, hbel, hsz⟩ := hrel
    clear hrow hb0 hs0
    by_cases hlt : k < ds.length
    · obtain ⟨-, -, h | ⟨b, o, rfl, hc⟩⟩ := hr
      · subst h; simp at hlt
      obtain ⟨⟨t, x⟩, hh⟩ : ∃ x, ds[k] = x := ⟨_, rfl⟩
      have gx : ds[k]? = some (t, x) := by rw [List.getElem?_eq_getElem hlt, hh]
      obtain ⟨p0, p1⟩ := (hc k _ gx).later hbel
      simp only [] at p0 p1
      have GX : Hid _ := gx
      have HMS : Hid _ := hms
      have HR : Hid _ := hrw
      have HB : Hid _ := hbel
      have i0 : (k : Int) < (ds.length : Int) := by omega
      clear gx hms hc hrw hbel hmk hh
      go_wp2_with fail
      refine (toDecl_any _ _ _).mono ?_
      rintro e w1 ⟨rfl, hb1⟩
      have hr1 := World.rowIs.of_block HR.out (hb1.block _ hsz)
      have q0 := hr1.cell (i := k * 2) (by omega)
      have q1 := hr1.cell (i := k * 2 + 1) (by omega)
      have r0 := hr1.frozen (k * 2)
      have r1 := hr1.frozen (k * 2 + 1)
      have HR1 : Hid _ := hr1
      clear hr1
      go_wp2_with fail
      go_roundw
      case rel =>
        refine ⟨k + 1, _, by omega, by go_num, World.rowIs.set (World.rowIs.set HR1.out (k * 2) (.string t)) (k * 2 + 1) (.int .i64 x), fun j d hj hd => ?_, ?_, ?_⟩
        · by_cases hjk : j = k
          · subst hjk
            rw [GX.out] at hd
            cases hd
            exact ⟨by simp, by simp⟩
          · obtain ⟨h0, h1⟩ := HMS.out j d (by omega) hd
            constructor
            · show (if _ then _ else _) = _
              rw [if_neg (by omega), if_neg (by omega)]; exact h0
            · show (if _ then _ else _) = _
              rw [if_neg (by omega), if_neg (by omega)]; exact h1
        · exact ((HB.out.trans (hb1.mono HB.out.size)).setCell (Nat.le_refl _) _).setCell (Nat.le_refl _) _
        · have := hb1.size
          simp; omega
      case measure => simp [intOf]; omega
    · have HS : Hid _ := hms
      have HR : Hid _ := hrw
      have HB : Hid _ := hbel
      clear hms hrw hbel hmk
      go_wp2_with fail
      go_ret
      refine ⟨rfl, ⟨hr.1, hr.2.1, .inr ⟨_, 0, rfl, fun i d hi => ?_⟩⟩, ⟨f, HR.out⟩, HB.out⟩
      have hil := (List.getElem?_eq_some_iff.1 hi).1
      obtain ⟨h0, h1⟩ := HS.out i d (by omega) hi
      refine ⟨?_, ?_⟩
      · rw [Nat.zero_add, ← h0]; exact World.rowIs.cell HR.out (by omega)
      · rw [Nat.zero_add, ← h1]; exact World.rowIs.cell HR.out (by omega)


set_option maxRecDepth 100000 in
theorem markText_any (k : Nat) (w : World) (hk : k ≤ 300000000) :
    Calls Try.prog 27 #[.int .i64 (k : Int)] w fun e w' => (∃ s : ByteArray, e = .returned (.string s)) ∧ Below w.heap.size w w' := by
  by_cases h0 : k = 0
  · subst h0
    go_enter Try.func27, Try.ntmps27
    go_wp2_with fail
    go_ret
    exact ⟨⟨_, rfl⟩, Below.refl _ _⟩
  · have h1 : ¬ (k : Int) ≤ 0 := by omega
    clear h0
    go_enter Try.func27, Try.ntmps27
    go_wp2_with fail
    go_loopw [0, 3] (fun q l wr => ∃ (m : Nat) (t : ByteArray), m ≤ 300000000 ∧ t.size + m ≤ 300000000 ∧ q = .int .i64 (m : Int) ∧ l = .string t ∧ Below w.heap.size w wr) (fun q _ _ => (intOf q).toNat)
    case atStart => exact ⟨k, ⟨#[]⟩, hk, by show 0 + k ≤ _; omega, rfl, rfl, Below.refl _ _⟩
    case round =>
      obtain ⟨m, t, hm, hmt, rfl, rfl, hbel⟩ := hrel
      have HB := kide hbel
      clear hbel
      by_cases hz : m = 0
      · subst hz
        go_wp2_with fail
        go_ret
        exact ⟨⟨_, rfl⟩, HB.out⟩
      · have hp : (0 : Int) < (m : Int) := by omega
        clear hz
        have hcv : (convert 74 9 (.slice (some ⟨wr.heap.size, 0, none⟩) 1 1)).run Try.prog (wr.alloc (Obj.cells #[Value.int .u8 (48 + (m : Int) % 10)] 5)) = .ok (.string ⟨#[UInt8.ofNat (48 + m % 10)]⟩) (wr.alloc (Obj.cells #[Value.int .u8 (48 + (m : Int) % 10)] 5)) := by
          have h := run_convert_bytes_back (P := Try.prog) (wr.alloc (Obj.cells #[Value.int .u8 (48 + (m : Int) % 10)] 5)) 74 9 5 ⟨wr.heap.size, 0, none⟩ 1 [UInt8.ofNat (48 + m % 10)] Try.underlying74 Try.underlying5 Try.underlying9 (fun j hj => by
            have hj0 : j = 0 := by simpa using hj
            subst hj0
            have e : ((UInt8.ofNat (48 + m % 10)).toNat : Int) = 48 + (m : Int) % 10 := by
              rw [UInt8.toNat_ofNat']
              omega
            rw [Addr.add_lit]
            simp [e]
            omega)
          exact h
        have HA := kide (HB.out.alloc HB.out.size (Obj.cells #[Value.int .u8 (48 + (m : Int) % 10)] 5))
        generalize hs1 : (⟨#[UInt8.ofNat (48 + m % 10)]⟩ : ByteArray) = s1 at hcv
        have hs1z : s1.size = 1 := by rw [← hs1]; rfl
        clear hs1
        go_wp2_with fail
        go_roundw
        case rel => exact ⟨m / 10, s1 ++ t, by omega, by rw [ByteArray.size_append]; omega, by simp, rfl, HA.out⟩
        case measure => simp [intOf]; omega

theorem markDeclS_any (g c n k : Nat) (f : Nat → Value) (w : World) (hr : w.rowIs g 49 (n * 2) f) (hn : n ≤ 1048576) (hk : k ≤ 1048576) :
    Calls Try.prog 12 #[.slice (some ⟨g, 0, none⟩) n c, .int .i64 (k : Int)] w fun e w' => e = .returned (.int .i64 ((k + n * 2 : Nat) : Int)) ∧ w.grownBy w' (some g) := by
  go_enter Try.func12, Try.ntmps12
  go_wp2_with fail
  go_loopw [1, 5] (fun q i wr => ∃ (j : Nat) (f' : Nat → Value), j ≤ n ∧ i = .int .i64 (j : Int) ∧ q = .int .i64 ((k + j * 2 : Nat) : Int) ∧ wr.rowIs g 49 (n * 2) f' ∧ w.grownBy wr (some g)) (fun _ i _ => n - (intOf i).toNat)
  case atStart => exact ⟨0, f, Nat.zero_le _, rfl, by simp, hr, ⟨rfl, rfl, rfl, Nat.le_refl _, fun _ _ _ => rfl⟩⟩
  case round =>
    obtain ⟨j, f', hj, rfl, rfl, hrow, hg⟩ := hrel
    by_cases hlt : j < n
    · have hgl : g < wr.heap.size := by
        obtain ⟨cc, hh, -⟩ := hrow
        exact lt_of_block hh
      generalize hK : k + j * 2 = K at *
      have HK := kide hK
      have hKb : K ≤ 300000000 := by omega
      have i0 : (j : Int) < (n : Int) := by omega
      have HMT := kide (markText_any K wr hKb)
      have HRW := kide hrow
      have HG := kide hg
      clear hrow hg hK
      go_wp2_with fail
      refine Calls.mono HMT.out ?_
      rintro e w1 ⟨⟨t, rfl⟩, hb1⟩
      have hr1 := World.rowIs.of_block HRW.out (hb1.block _ hgl)
      have q0 := hr1.cell (i := j * 2) (by omega)
      have q1 := hr1.cell (i := j * 2 + 1) (by omega)
      have r0 := hr1.frozen (j * 2)
      have r1 := hr1.frozen (j * 2 + 1)
      have HR1 := kide hr1
      have HG1 : Hid (w.grownBy w1 (some g)) := ⟨hb1.os.trans HG.out.os, hb1.tape.trans HG.out.tape, hb1.output.trans HG.out.output, Nat.le_trans HG.out.size hb1.size, fun q hq hne => (hb1.block q (Nat.lt_of_lt_of_le hq HG.out.size)).trans (HG.out.block q hq hne)⟩
      clear hr1 hb1
      go_wp2_with fail
      go_roundw
      case rel =>
        refine ⟨j + 1, _, by omega, by go_num, ?_, World.rowIs.set (World.rowIs.set HR1.out (j * 2) (.string t)) (j * 2 + 1) (.int .i64 ((K : Int) + 1)), grow_set (grow_set HG1.out (j * 2) _) (j * 2 + 1) _⟩
        rw [show k + (j + 1) * 2 = K + 2 by have := HK.out; omega]
        first | go_num | (congr 1; push_cast; omega) | (simp; omega)
      case measure => simp [intOf]; omega
    · have e : j = n := by omega
      subst e
      have HG := kide hg
      clear hrow hg
      go_wp2_with fail
      go_ret
      exact ⟨rfl, HG.out⟩

end Go.Proofs.Ytjnbapddfhpcnaa

/- Cuts marked: only what lies between two blocks turns. -/
namespace Go.Proofs.Ytjnbapddfhpcnaa
set_option linter.unusedVariables false
set_option linter.unusedSimpArgs false
open Go.RowKit

/-- Outside of the blocks B1 .. B2 - 1 nothing has turned. -/
def Out (B1 B2 : Nat) (w w' : World) : Prop := w'.os = w.os ∧ w'.tape = w.tape ∧ w'.output = w.output ∧ w.heap.size ≤ w'.heap.size ∧ ∀ k, k < w.heap.size → (k < B1 ∨ B2 ≤ k) → w'.heap[k]? = w.heap[k]?
theorem Out.refl (B1 B2 : Nat) (w : World) : Out B1 B2 w w := ⟨rfl, rfl, rfl, Nat.le_refl _, fun _ _ _ => rfl⟩
theorem Out.trans {B1 B2 : Nat} {w w1 w2 : World} (h : Out B1 B2 w w1) (h' : Out B1 B2 w1 w2) : Out B1 B2 w w2 :=
  ⟨h'.1.trans h.1, h'.2.1.trans h.2.1, h'.2.2.1.trans h.2.2.1, Nat.le_trans h.2.2.2.1 h'.2.2.2.1, fun k hk ho => (h'.2.2.2.2 k (Nat.lt_of_lt_of_le hk h.2.2.2.1) ho).trans (h.2.2.2.2 k hk ho)⟩
theorem Out.grown {B1 B2 g : Nat} {w w' : World} (h : w.grownBy w' (some g)) (h1 : B1 ≤ g) (h2 : g < B2) : Out B1 B2 w w' :=
  ⟨h.os, h.tape, h.output, h.size, fun k hk ho => h.block k hk (fun e => by cases e; omega)⟩
theorem Out.below {B1 B2 : Nat} {w w' : World} (h : Below w.heap.size w w') : Out B1 B2 w w' := ⟨h.os, h.tape, h.output, h.size, fun k hk _ => h.block k hk⟩
theorem Out.cell {B1 B2 : Nat} {w w' : World} (h : Out B1 B2 w w') {b o : Nat} (hb : b < w.heap.size) (ho : b < B1 ∨ B2 ≤ b) : w'.cell? ⟨b, o, none⟩ = w.cell? ⟨b, o, none⟩ := World.cell?_of_block (w := w) (a := ⟨b, o, none⟩) (h.2.2.2.2 b hb ho)

/-- A row of numbers that may be written, between two blocks. -/
def WrI (w : World) (B1 B2 : Nat) (x : Iw) : Prop := x.ks = [] ∨ ∃ g zs, x.a = some ⟨g, 0, none⟩ ∧ B1 ≤ g ∧ g < B2 ∧ OwnI w g zs ∧ zs.length = x.ks.length

theorem markInt64S_any (g c n k : Nat) (zs : List Int) (w : World) (ho : OwnI w g zs) (hz : zs.length = n) (hn : n ≤ 1048576) (hk : k ≤ 2199023255552) :
    Calls Try.prog 40 #[.slice (some ⟨g, 0, none⟩) n c, .int .i64 (k : Int)] w fun e w' => e = .returned (.int .i64 ((k + n : Nat) : Int)) ∧ (∃ zs', OwnI w' g zs' ∧ zs'.length = n) ∧ w.grownBy w' (some g) := by
  go_enter Try.func40, Try.ntmps40
  go_wp2_with fail
  go_loopw [1, 5] (fun q i wr => ∃ (j : Nat) (ys : List Int), j ≤ n ∧ i = .int .i64 (j : Int) ∧ q = .int .i64 ((k + j : Nat) : Int) ∧ OwnI wr g ys ∧ ys.length = n ∧ w.grownBy wr (some g)) (fun _ i _ => n - (intOf i).toNat)
  case atStart => exact ⟨0, zs, Nat.zero_le _, rfl, by simp, ho, hz, ⟨rfl, rfl, rfl, Nat.le_refl _, fun _ _ _ => rfl⟩⟩
  case round =>
    obtain ⟨j, ys, hj, rfl, rfl, hown, hl, hg⟩ := hrel
    have HG := kide hg
    by_cases hlt : j < n
    · have q0 := hown.cell (i := j) (by omega)
      have r0 := hown.free j
      generalize ys.getD j 0 = y0 at q0
      generalize hK : k + j = K at *
      have HK := kide hK
      have hKb : K ≤ 4398046511104 := by omega
      have i0 : (j : Int) < (n : Int) := by omega
      have HO := kide hown
      have HL := kide hl
      clear hown hl hg hK
      go_wp2_with fail
      go_roundw
      case rel => exact ⟨j + 1, ys.set j (K : Int), by omega, by go_num, by rw [show k + (j + 1) = K + 1 by have := HK.out; omega]; first | go_num | (simp; done), HO.out.put j _, by rw [List.length_set]; exact HL.out, grow_set HG.out j _⟩
      case measure => simp [intOf]; omega
    · have e : j = n := by omega
      subst e
      have HO := kide hown
      have HL := kide hl
      clear hown hl hg
      go_wp2_with fail
      go_ret
      exact ⟨rfl, ⟨ys, HO.out, HL.out⟩, HG.out⟩

theorem WrI.grown {w w' : World} {B1 B2 g : Nat} {x : Iw} (h : WrI w B1 B2 x) (hg : w.grownBy w' (some g)) {zs zs' : List Int} (ho : OwnI w g zs) (ho' : OwnI w' g zs') (hl : zs'.length = zs.length) : WrI w' B1 B2 x := by
  rcases h with h | ⟨g2, ys, h1, h2, h3, h4, h5⟩
  · exact .inl h
  · refine .inr ?_
    by_cases e : g2 = g
    · subst e
      have h6 : i64s ys = i64s zs := by
        have a1 := h4
        unfold OwnI at a1 ho
        rw [a1] at ho
        simp only [Option.some.injEq, Obj.cells.injEq, and_true] at ho
        exact ho
      have h7 : ys.length = zs.length := by rw [← i64s_size ys, ← i64s_size zs, h6]
      exact ⟨g2, zs', h1, h2, h3, ho', by omega⟩
    · refine ⟨g2, ys, h1, h2, h3, ?_, h5⟩
      unfold OwnI
      rw [hg.block g2 h4.lt (fun e' => e (by cases e'; rfl))]
      exact h4

theorem markInt64SS_any (g c n k B1 B2 : Nat) (xs : List Iw) (w : World) (f : Nat → Value) (hr : w.rowIs g 46 n f) (hf : ∀ i x, xs[i]? = some x → f i = .slice x.a x.ks.length x.c) (hx : ∀ x ∈ xs, WrI w B1 B2 x ∧ x.ks.length ≤ 1048576) (hn : xs.length = n) (hn2 : n ≤ 1048576) (hk : k ≤ 4194304) :
    Calls Try.prog 28 #[.slice (some ⟨g, 0, none⟩) n c, .int .i64 (k : Int)] w fun e w' => (∃ r : Int, 0 ≤ r ∧ e = .returned (.int .i64 r)) ∧ Out B1 B2 w w' := by
  have HN := kide hn
  have HF := kide hf
  clear hn hf
  go_enter Try.func28, Try.ntmps28
  go_wp2_with fail
  go_loopw [1, 5] (fun q i wr => ∃ (j K : Nat), j ≤ n ∧ i = .int .i64 (j : Int) ∧ q = .int .i64 (K : Int) ∧ K ≤ 4194304 + j * 1048576 ∧ wr.rowIs g 46 n f ∧ (∀ x ∈ xs, WrI wr B1 B2 x ∧ x.ks.length ≤ 1048576) ∧ Out B1 B2 w wr) (fun _ i _ => n - (intOf i).toNat)
  case atStart => exact ⟨0, k, Nat.zero_le _, rfl, rfl, by omega, hr, hx, Out.refl _ _ _⟩
  case round =>
    obtain ⟨j, K, hj, rfl, rfl, hK, hrow, hxs, hout⟩ := hrel
    have HO := kide hout
    have HRW := kide hrow
    have HXS := kide hxs
    by_cases hlt : j < n
    · have q0 := hrow.cell (i := j) (by omega)
      obtain ⟨⟨a1, c1, ks⟩, gx⟩ : ∃ x, xs[j]? = some x := ⟨xs[j]'(by rw [HN.out]; exact hlt), List.getElem?_eq_getElem _⟩
      rw [HF.out j _ gx] at q0
      obtain ⟨hw, hkl⟩ := hxs _ (List.mem_of_getElem? gx)
      simp only [] at q0 hkl
      have hKb : K ≤ 2199023255552 := by
        have : j * 1048576 ≤ 1048576 * 1048576 := Nat.mul_le_mul_right _ (by omega)
        omega
      have i0 : (j : Int) < (n : Int) := by omega
      have hKn : ∀ m : Nat, m ≤ 1048576 → K + m ≤ 4194304 + (j + 1) * 1048576 := by
        intro m hm
        rw [Nat.succ_mul]
        omega
      have HKN := kide hKn
      have HWX := kide hw
      clear hout hrow hxs gx hw hK hKn
      rcases HWX.out with h | ⟨g2, zs, h1, h2, h3, h4, h5⟩
      · simp only [] at h
        subst h
        have HMN : Hid (∀ u, Calls Try.prog 40 #[.slice a1 0 c1, .int .i64 (K : Int)] u fun e w' => e = .returned (.int .i64 (K : Int)) ∧ w' = u) := fun u => by
          go_enter Try.func40, Try.ntmps40
          go_wp2_with fail
          refine wp_loop_rounds 1 ?_; rw [rounds_succ]
          go_wp2_with fail
          go_ret
          exact ⟨rfl, rfl⟩
        go_wp2_with fail
        refine Calls.mono (HMN.out _) ?_
        rintro e w1 ⟨rfl, rfl⟩
        go_wp2_with fail
        go_roundw
        case rel => exact ⟨j + 1, K, by omega, by go_num, rfl, by have := HKN.out 0 (by omega); omega, HRW.out, HXS.out, HO.out⟩
        case measure => simp [intOf]; omega
      · simp only [] at h1 h5
        subst h1
        have HMN := kide (markInt64S_any g2 c1 ks.length K zs wr h4 h5 hkl hKb)
        have H4 := kide h4
        have H5 := kide h5
        have hgne : g ≠ g2 := by
          intro e
          subst e
          obtain ⟨cc, hh, -⟩ := HRW.out
          have h4' := H4.out
          unfold OwnI at h4'
          rw [hh] at h4'
          cases h4'
        clear h4 h5
        go_wp2_with fail
        refine Calls.mono HMN.out ?_
        rintro e w1 ⟨rfl, ⟨zs', ho', hl'⟩, hg1⟩
        have HR1 : Hid (w1.rowIs g 46 n f) := World.rowIs.of_block HRW.out (hg1.block g (by obtain ⟨cc, hh, -⟩ := HRW.out; exact lt_of_block hh) (fun e => hgne (by cases e; rfl)))
        have HX1 : Hid (∀ x ∈ xs, WrI w1 B1 B2 x ∧ x.ks.length ≤ 1048576) := fun x hx => ⟨(HXS.out x hx).1.grown hg1 H4.out ho' (by have := H5.out; omega), (HXS.out x hx).2⟩
        have HO1 := kide (HO.out.trans (Out.grown hg1 h2 h3))
        clear ho' hl' hg1
        go_wp2_with fail
        go_roundw
        case rel => exact ⟨j + 1, K + ks.length, by omega, by go_num, rfl, HKN.out _ hkl, HR1.out, HX1.out, HO1.out⟩
        case measure => simp [intOf]; omega
    · have e : j = n := by omega
      clear hout hrow hxs
      go_wp2_with fail
      go_ret
      exact ⟨⟨_, by omega, rfl⟩, HO.out⟩

theorem toInt64SS_own (a : Option Addr) (c : Nat) (xs : List Iw) (w : World) (hr : RdII w a xs) :
    Calls Try.prog 21 #[.slice a xs.length c] w fun e w' => ∃ ms : List Iw, e = .returned (.slice (some ⟨w.heap.size, 0, none⟩) xs.length xs.length) ∧ ms.map Iw.ks = xs.map Iw.ks ∧ RdII w' (some ⟨w.heap.size, 0, none⟩) ms ∧ (∃ f, w'.rowIs w.heap.size 46 xs.length f ∧ ∀ i x, ms[i]? = some x → f i = .slice x.a x.ks.length x.c) ∧ (∀ x ∈ ms, WrI w' w.heap.size w'.heap.size x ∧ x.ks.length ≤ 1048576) ∧ Below w.heap.size w w' := by
  have hlen := hr.1
  have hmk := fun kl kc w => run_make_row' (P := Try.prog) 23 46 (.slice none 0 0) 24 Try.underlying23 Try.infoRow rfl kl kc xs.length (by omega) (by omega) w
  go_enter Try.func21, Try.ntmps21
  go_wp2_with fail
  have hrow := krow (heap_alloc_new w (.cells (madeCells #[.slice none 0 0] xs.length) 46))
  rw [size_madeCells] at hrow
  have hb0 : Below w.heap.size w (w.alloc (.cells (madeCells #[.slice none 0 0] xs.length) 46)) := (Below.refl _ _).alloc (Nat.le_refl _) _
  have hs0 : w.heap.size < (w.alloc (.cells (madeCells #[.slice none 0 0] xs.length) 46)).heap.size := by simp
  generalize (w.alloc (.cells (madeCells #[.slice none 0 0] xs.length) 46)) = w0 at *
  go_loopw [4] (fun i wr => ∃ (k : Nat) (f : Nat → Value) (ms : List Iw), k ≤ xs.length ∧ i = .int .i64 k ∧ wr.rowIs w.heap.size 46 xs.length f ∧ ms.length = k ∧ ms.map Iw.ks = (xs.take k).map Iw.ks ∧ (∀ j x, ms[j]? = some x → f j = .slice x.a x.ks.length x.c ∧ ∃ g, x.a = some ⟨g, 0, none⟩ ∧ w.heap.size < g ∧ OwnI wr g x.ks) ∧ Below w.heap.size w wr ∧ w.heap.size < wr.heap.size) (fun i _ => xs.length - (intOf i).toNat)
  case atStart => exact ⟨0, _, [], Nat.zero_le _, rfl, hrow, rfl, rfl, fun j x h => by simp at h, hb0, hs0⟩
  case round =>
    obtain ⟨k, f, ms, hk, rfl, hrw, hml, hmc, hms, hbel, hsz⟩ := hrel
    clear hrow hb0 hs0
    by_cases hlt : k < xs.length
    · obtain ⟨-, h | ⟨b, o, rfl, hc⟩⟩ := hr
      · subst h; simp at hlt
      obtain ⟨⟨a1, c1, k1⟩, hx⟩ : ∃ x, xs[k] = x := ⟨_, rfl⟩
      have gx : xs[k]? = some ⟨a1, c1, k1⟩ := by rw [List.getElem?_eq_getElem hlt, hx]
      obtain ⟨p1', p2'⟩ := (hc k _ gx).later hbel
      simp only [] at p1' p2'
      clear hx
      have GX : Hid _ := gx
      have HML : Hid _ := hml
      have HMC : Hid _ := hmc
      have HMS : Hid _ := hms
      have HR : Hid _ := hrw
      have HB : Hid _ := hbel
      have i0 : (k : Int) < (xs.length : Int) := by omega
      clear gx hml hmc hms hc hrw hbel hmk
      go_wp2_with fail
      refine (toInt64S_any _ _ _ _ p2').mono ?_
      rintro e w1 ⟨rfl, hown, hb1⟩
      have hr1 := World.rowIs.of_block HR.out (hb1.block _ hsz)
      have q1 := hr1.cell (i := k) (by omega)
      have r1 := hr1.frozen k
      have HR1 : Hid _ := hr1
      clear hr1
      go_wp2_with fail
      go_roundw
      case rel =>
        have hl := HML.out
        refine ⟨k + 1, _, ms ++ [⟨some ⟨wr.heap.size, 0, none⟩, k1.length, k1⟩], by omega, by go_num, World.rowIs.set HR1.out k (.slice (some ⟨wr.heap.size, 0, none⟩) k1.length k1.length), by simp [hl], ?_, fun j x hj => ?_, ?_, ?_⟩
        · have h := HMC.out
          rw [List.map_append, h, List.take_add_one, GX.out, List.map_append]
          rfl
        · rw [List.getElem?_append] at hj
          split at hj
          · obtain ⟨h0, g, h2, h3, h4⟩ := HMS.out j x hj
            refine ⟨?_, g, h2, h3, (h4.later hb1 h4.lt).other (by simp; omega) _⟩
            show (if _ then _ else _) = _
            rw [if_neg (by omega)]; exact h0
          · have hj2 : j - ms.length = 0 := by
              have := (List.getElem?_eq_some_iff.1 hj).1
              simp at this; exact this
            rw [hj2] at hj
            simp at hj
            subst hj
            have hjk : j = k := by omega
            subst hjk
            exact ⟨by simp, _, rfl, hsz, hown.other (by simp; omega) _⟩
        · exact (HB.out.trans (hb1.mono HB.out.size)).setCell (Nat.le_refl _) _
        · have := hb1.size
          simp; omega
      case measure => simp [intOf]; omega
    · have e : k = xs.length := by omega
      have HM : Hid _ := hml
      have HC : Hid _ := hmc
      have HS : Hid _ := hms
      have HR : Hid _ := hrw
      have HB : Hid _ := hbel
      have HE : Hid _ := e
      clear hml hmc hms hrw hbel e hmk
      go_wp2_with fail
      go_ret
      refine ⟨ms, rfl, ?_, ⟨by rw [HM.out]; omega, .inr ⟨_, 0, rfl, fun i x hi => ?_⟩⟩, ⟨f, HR.out, fun i x hi => (HS.out i x hi).1⟩, fun x hx => ?_, HB.out⟩
      · have h := HC.out
        rw [HE.out, List.take_length] at h
        exact h
      · obtain ⟨h0, g, h2, h3, h4⟩ := HS.out i x hi
        have hik : i < k := by have := (List.getElem?_eq_some_iff.1 hi).1; rw [HM.out] at this; exact this
        have hct : ∃ y, xs[i]? = some y ∧ y.ks = x.ks := by
          have h := HC.out
          rw [HE.out, List.take_length] at h
          have h' : (ms.map Iw.ks)[i]? = (xs.map Iw.ks)[i]? := by rw [h]
          rw [List.getElem?_map, List.getElem?_map, hi, Option.map_some] at h'
          cases hy : xs[i]? with
          | none => rw [hy] at h'; cases h'
          | some y => rw [hy] at h'; simp at h'; exact ⟨y, rfl, h'.symm⟩
        obtain ⟨y, hy, hyx⟩ := hct
        obtain ⟨-, hn | ⟨b, o, -, hc⟩⟩ := hr
        · subst hn; simp at hy
        obtain ⟨-, ⟨l1, l2, -⟩⟩ := hc i y hy
        rw [hyx] at l1 l2
        refine ⟨?_, ?_⟩
        · rw [Nat.zero_add, ← h0]; exact World.rowIs.cell HR.out (by omega)
        · rw [h2]
          exact OwnI.rd h4 l1 l2
      · obtain ⟨i, hi, e⟩ := List.mem_iff_getElem.1 hx
        obtain ⟨-, g, h2, h3, h4⟩ := HS.out i x (by rw [List.getElem?_eq_getElem hi, e])
        refine ⟨.inr ⟨g, x.ks, h2, by omega, h4.lt, h4, rfl⟩, ?_⟩
        have hct : ∃ y, xs[i]? = some y ∧ y.ks = x.ks := by
          have h := HC.out
          rw [HE.out, List.take_length] at h
          have h' : (ms.map Iw.ks)[i]? = (xs.map Iw.ks)[i]? := by rw [h]
          rw [List.getElem?_map, List.getElem?_map, List.getElem?_eq_getElem hi, e, Option.map_some] at h'
          cases hy : xs[i]? with
          | none => rw [hy] at h'; cases h'
          | some y => rw [hy] at h'; simp at h'; exact ⟨y, rfl, h'.symm⟩
        obtain ⟨y, hy, hyx⟩ := hct
        obtain ⟨-, hn | ⟨b, o, -, hc⟩⟩ := hr
        · subst hn; simp at hy
        obtain ⟨-, ⟨l1, -⟩⟩ := hc i y hy
        rw [hyx] at l1
        exact l1

theorem toCuts_own (a : Option Addr) (c : Nat) (xs : List Iw) (w : World) (hr : RdII w a xs) (n : Nat) (hn : xs.length = n) :
    Calls Try.prog 8 #[.agg #[.slice a n c]] w fun e w' => ∃ (g : Nat) (ms : List Iw), e = .returned (.agg #[.slice (some ⟨g, 0, none⟩) n n]) ∧ ms.map Iw.ks = xs.map Iw.ks ∧ w.heap.size ≤ g ∧ RdII w' (some ⟨g, 0, none⟩) ms ∧ (∃ f, w'.rowIs g 46 n f ∧ ∀ i x, ms[i]? = some x → f i = .slice x.a x.ks.length x.c) ∧ (∀ x ∈ ms, WrI w' w.heap.size w'.heap.size x ∧ x.ks.length ≤ 1048576) ∧ Below w.heap.size w w' := by
  subst hn
  go_enter Try.func8, Try.ntmps8
  go_wp2_with fail
  refine (toInt64SS_own a c xs _ ?_).mono ?_
  · refine hr.later (Below.alloc (Below.alloc (Below.alloc (Below.refl _ _) ?_ _) ?_ _) ?_ _)
    all_goals first | exact Nat.le_refl _ | (simp; done) | (simp; omega)
  rintro e w1 ⟨ms, rfl, hms, hrd, ⟨f, hrow, hff⟩, hwr, hb⟩
  have hc := kcell hb
  have hz : w.heap.size + 1 + 1 < w1.heap.size := by have := hb.size; simp at this; omega
  have hf := kfroz hb
  have HO := kide hrd
  have HRW := kide hrow
  have HFF := kide hff
  have HWR := kide hwr
  have HB := kide hb
  have HM := kide hms
  clear hrd hb hr hms hrow hff hwr
  go_wp2_with fail
  refine bodyPost_ret (v := .agg #[.slice (some ⟨w.heap.size + 1 + 1 + 1, 0, none⟩) xs.length xs.length]) (by simp [results, Try.results8, go_sem, hc]) rfl ⟨_, ms, rfl, HM.out, by omega, ?_, ?_, ?_, ?_⟩
  · have h := HO.out
    simp only [World.size_alloc] at h
    rcases h with ⟨hl, h | ⟨b, o, hbo, hc⟩⟩
    · exact ⟨hl, .inl h⟩
    · have hbb : b = w.heap.size + 1 + 1 + 1 := by injection hbo with e; injection e with e1 _ _; exact e1.symm
      subst hbb
      refine ⟨hl, .inr ⟨_, o, hbo, fun i x hi => ?_⟩⟩
      obtain ⟨p1, p2⟩ := hc i x hi
      have hwx := (HWR.out x (List.mem_of_getElem? hi)).1
      have hfar : x.ks = [] ∨ ∀ b o sp, x.a = some ⟨b, o, sp⟩ → w.heap.size + 3 ≤ b := by
        rcases hwx with h | ⟨g, zs, h1, h2, -⟩
        · exact .inl h
        · refine .inr fun b o sp e => ?_
          rw [h1] at e
          cases e
          simp at h2
          omega
      refine ⟨kset (kset p1 (by simp)) (by simp; omega), ?_⟩
      rcases hfar with h | h
      · rw [h] at p2 ⊢
        exact ⟨by simp, by simp, .inl rfl⟩
      · exact (p2.set h (by first | (simp; done) | (simp; omega)) _).set h (by first | (simp; done) | (simp; omega)) _
  · have h := HRW.out
    simp only [World.size_alloc] at h
    exact ⟨f, World.rowIs.of_block h (by rw [heap_setCell_other _ _ _ _ (by simp; omega), heap_setCell_other _ _ _ _ (by simp)]), HFF.out⟩
  · intro x hx
    obtain ⟨h, hl⟩ := HWR.out x hx
    refine ⟨?_, hl⟩
    rcases h with h | ⟨g, zs, h1, h2, h3, h4, h5⟩
    · exact .inl h
    · simp only [World.size_alloc] at h2
      exact .inr ⟨g, zs, h1, by omega, by simpa using h3, (h4.other (by simp; omega) _).other (by simp; omega) _, h5⟩
  · have h := HB.out
    have h0 : Below w.heap.size w w1 := by
      refine Below.trans (Below.alloc (Below.alloc (Below.alloc (Below.refl _ _) ?_ _) ?_ _) ?_ _) (h.mono ?_)
      all_goals first | exact Nat.le_refl _ | (simp; done) | (simp; omega)
    exact (h0.setCell (by simp; omega) _).setCell (by simp) _



theorem markCuts_any (g c n k B1 B2 : Nat) (xs : List Iw) (w : World) (f : Nat → Value) (hr : w.rowIs g 46 n f) (hf : ∀ i x, xs[i]? = some x → f i = .slice x.a x.ks.length x.c) (hx : ∀ x ∈ xs, WrI w B1 B2 x ∧ x.ks.length ≤ 1048576) (hn : xs.length = n) (hn2 : n ≤ 1048576) (hk : k ≤ 4194304) :
    Calls Try.prog 13 #[.agg #[.slice (some ⟨g, 0, none⟩) n c], .int .i64 (k : Int)] w fun e w' => (∃ r : Int, 0 ≤ r ∧ e = .returned (.int .i64 r)) ∧ Out B1 B2 w w' := by
  have hb0 : Below w.heap.size w (w.alloc (Obj.cells #[Value.slice (some ⟨g, 0, none⟩) n c] 28)) := (Below.refl _ _).alloc (Nat.le_refl _) _
  have hgl : g < w.heap.size := by obtain ⟨cc, hh, -⟩ := hr; exact lt_of_block hh
  have HC := kide (markInt64SS_any g c n k B1 B2 xs _ f (World.rowIs.of_block hr (hb0.block g hgl)) hf (fun x hx' => ⟨by
    rcases (hx x hx').1 with h | ⟨g2, zs, h1, h2, h3, h4, h5⟩
    · exact .inl h
    · exact .inr ⟨g2, zs, h1, h2, h3, h4.later hb0 h4.lt, h5⟩, (hx x hx').2⟩) hn hn2 hk)
  have B0 := kide hb0
  clear hr hf hx hn hb0
  go_enter Try.func13, Try.ntmps13
  go_wp2_with fail
  refine Calls.mono HC.out ?_
  rintro e w1 ⟨⟨r, hr, rfl⟩, ho⟩
  have HO := kide ((Out.below B0.out).trans ho)
  clear ho
  go_wp2_with fail
  go_ret
  exact ⟨⟨r, hr, rfl⟩, HO.out⟩

end Go.Proofs.Ytjnbapddfhpcnaa

/- Cuts marked, one behind the other. -/
namespace Go.Proofs.Ytjnbapddfhpcnaa
set_option linter.unusedVariables false
set_option linter.unusedSimpArgs false
open Go.RowKit

theorem markInt64S_far (g c n k : Nat) (zs : List Int) (w : World) (ho : OwnI w g zs) (hz : zs.length = n) (hn : n ≤ 1048576) (hk : k ≤ 17592186044416) :
    Calls Try.prog 40 #[.slice (some ⟨g, 0, none⟩) n c, .int .i64 (k : Int)] w fun e w' => e = .returned (.int .i64 ((k + n : Nat) : Int)) ∧ (∃ zs', OwnI w' g zs' ∧ zs'.length = n) ∧ w.grownBy w' (some g) := by
  go_enter Try.func40, Try.ntmps40
  go_wp2_with fail
  go_loopw [1, 5] (fun q i wr => ∃ (j : Nat) (ys : List Int), j ≤ n ∧ i = .int .i64 (j : Int) ∧ q = .int .i64 ((k + j : Nat) : Int) ∧ OwnI wr g ys ∧ ys.length = n ∧ w.grownBy wr (some g)) (fun _ i _ => n - (intOf i).toNat)
  case atStart => exact ⟨0, zs, Nat.zero_le _, rfl, by simp, ho, hz, ⟨rfl, rfl, rfl, Nat.le_refl _, fun _ _ _ => rfl⟩⟩
  case round =>
    obtain ⟨j, ys, hj, rfl, rfl, hown, hl, hg⟩ := hrel
    have HG := kide hg
    by_cases hlt : j < n
    · have q0 := hown.cell (i := j) (by omega)
      have r0 := hown.free j
      generalize ys.getD j 0 = y0 at q0
      generalize hK : k + j = K at *
      have HK := kide hK
      have hKb : K ≤ 35184372088832 := by omega
      have i0 : (j : Int) < (n : Int) := by omega
      have HO := kide hown
      have HL := kide hl
      clear hown hl hg hK
      go_wp2_with fail
      go_roundw
      case rel => exact ⟨j + 1, ys.set j (K : Int), by omega, by go_num, by rw [show k + (j + 1) = K + 1 by have := HK.out; omega]; first | go_num | (simp; done), HO.out.put j _, by rw [List.length_set]; exact HL.out, grow_set HG.out j _⟩
      case measure => simp [intOf]; omega
    · have e : j = n := by omega
      subst e
      have HO := kide hown
      have HL := kide hl
      clear hown hl hg
      go_wp2_with fail
      go_ret
      exact ⟨rfl, ⟨ys, HO.out, HL.out⟩, HG.out⟩

theorem markInt64SS_far (g c n k B1 B2 : Nat) (xs : List Iw) (w : World) (f : Nat → Value) (hr : w.rowIs g 46 n f) (hf : ∀ i x, xs[i]? = some x → f i = .slice x.a x.ks.length x.c) (hx : ∀ x ∈ xs, WrI w B1 B2 x ∧ x.ks.length ≤ 1048576) (hn : xs.length = n) (hn2 : n ≤ 1048576) (hk : k ≤ 4398046511104) :
    Calls Try.prog 28 #[.slice (some ⟨g, 0, none⟩) n c, .int .i64 (k : Int)] w fun e w' => (∃ r : Nat, r ≤ k + n * 1048576 ∧ e = .returned (.int .i64 (r : Int))) ∧ Out B1 B2 w w' := by
  have HN := kide hn
  have HF := kide hf
  clear hn hf
  go_enter Try.func28, Try.ntmps28
  go_wp2_with fail
  go_loopw [1, 5] (fun q i wr => ∃ (j K : Nat), j ≤ n ∧ i = .int .i64 (j : Int) ∧ q = .int .i64 (K : Int) ∧ K ≤ k + j * 1048576 ∧ wr.rowIs g 46 n f ∧ (∀ x ∈ xs, WrI wr B1 B2 x ∧ x.ks.length ≤ 1048576) ∧ Out B1 B2 w wr) (fun _ i _ => n - (intOf i).toNat)
  case atStart => exact ⟨0, k, Nat.zero_le _, rfl, rfl, by omega, hr, hx, Out.refl _ _ _⟩
  case round =>
    obtain ⟨j, K, hj, rfl, rfl, hK, hrow, hxs, hout⟩ := hrel
    have HO := kide hout
    have HRW := kide hrow
    have HXS := kide hxs
    by_cases hlt : j < n
    · have q0 := hrow.cell (i := j) (by omega)
      obtain ⟨⟨a1, c1, ks⟩, gx⟩ : ∃ x, xs[j]? = some x := ⟨xs[j]'(by rw [HN.out]; exact hlt), List.getElem?_eq_getElem _⟩
      rw [HF.out j _ gx] at q0
      obtain ⟨hw, hkl⟩ := hxs _ (List.mem_of_getElem? gx)
      simp only [] at q0 hkl
      have hKb : K ≤ 17592186044416 := by
        have : j * 1048576 ≤ 1048576 * 1048576 := Nat.mul_le_mul_right _ (by omega)
        omega
      have i0 : (j : Int) < (n : Int) := by omega
      have hKn : ∀ m : Nat, m ≤ 1048576 → K + m ≤ k + (j + 1) * 1048576 := by
        intro m hm
        rw [Nat.succ_mul]
        omega
      have HKN := kide hKn
      have HWX := kide hw
      clear hout hrow hxs gx hw hK hKn
      rcases HWX.out with h | ⟨g2, zs, h1, h2, h3, h4, h5⟩
      · simp only [] at h
        subst h
        have HMN : Hid (∀ u, Calls Try.prog 40 #[.slice a1 0 c1, .int .i64 (K : Int)] u fun e w' => e = .returned (.int .i64 (K : Int)) ∧ w' = u) := fun u => by
          go_enter Try.func40, Try.ntmps40
          go_wp2_with fail
          refine wp_loop_rounds 1 ?_; rw [rounds_succ]
          go_wp2_with fail
          go_ret
          exact ⟨rfl, rfl⟩
        go_wp2_with fail
        refine Calls.mono (HMN.out _) ?_
        rintro e w1 ⟨rfl, rfl⟩
        go_wp2_with fail
        go_roundw
        case rel => exact ⟨j + 1, K, by omega, by go_num, rfl, by have := HKN.out 0 (by omega); omega, HRW.out, HXS.out, HO.out⟩
        case measure => simp [intOf]; omega
      · simp only [] at h1 h5
        subst h1
        have HMN := kide (markInt64S_far g2 c1 ks.length K zs wr h4 h5 hkl hKb)
        have H4 := kide h4
        have H5 := kide h5
        have hgne : g ≠ g2 := by
          intro e
          subst e
          obtain ⟨cc, hh, -⟩ := HRW.out
          have h4' := H4.out
          unfold OwnI at h4'
          rw [hh] at h4'
          cases h4'
        clear h4 h5
        go_wp2_with fail
        refine Calls.mono HMN.out ?_
        rintro e w1 ⟨rfl, ⟨zs', ho', hl'⟩, hg1⟩
        have HR1 : Hid (w1.rowIs g 46 n f) := World.rowIs.of_block HRW.out (hg1.block g (by obtain ⟨cc, hh, -⟩ := HRW.out; exact lt_of_block hh) (fun e => hgne (by cases e; rfl)))
        have HX1 : Hid (∀ x ∈ xs, WrI w1 B1 B2 x ∧ x.ks.length ≤ 1048576) := fun x hx => ⟨(HXS.out x hx).1.grown hg1 H4.out ho' (by have := H5.out; omega), (HXS.out x hx).2⟩
        have HO1 := kide (HO.out.trans (Out.grown hg1 h2 h3))
        clear ho' hl' hg1
        go_wp2_with fail
        go_roundw
        case rel => exact ⟨j + 1, K + ks.length, by omega, by go_num, rfl, HKN.out _ hkl, HR1.out, HX1.out, HO1.out⟩
        case measure => simp [intOf]; omega
    · have e : j = n := by omega
      clear hout hrow hxs
      go_wp2_with fail
      go_ret
      subst e
      exact ⟨⟨K, hK, rfl⟩, HO.out⟩

theorem markCuts_far (g c n k B1 B2 : Nat) (xs : List Iw) (w : World) (f : Nat → Value) (hr : w.rowIs g 46 n f) (hf : ∀ i x, xs[i]? = some x → f i = .slice x.a x.ks.length x.c) (hx : ∀ x ∈ xs, WrI w B1 B2 x ∧ x.ks.length ≤ 1048576) (hn : xs.length = n) (hn2 : n ≤ 1048576) (hk : k ≤ 4398046511104) :
    Calls Try.prog 13 #[.agg #[.slice (some ⟨g, 0, none⟩) n c], .int .i64 (k : Int)] w fun e w' => (∃ r : Nat, r ≤ k + n * 1048576 ∧ e = .returned (.int .i64 (r : Int))) ∧ Out B1 B2 w w' := by
  have hb0 : Below w.heap.size w (w.alloc (Obj.cells #[Value.slice (some ⟨g, 0, none⟩) n c] 28)) := (Below.refl _ _).alloc (Nat.le_refl _) _
  have hgl : g < w.heap.size := by obtain ⟨cc, hh, -⟩ := hr; exact lt_of_block hh
  have HC := kide (markInt64SS_far g c n k B1 B2 xs _ f (World.rowIs.of_block hr (hb0.block g hgl)) hf (fun x hx' => ⟨by
    rcases (hx x hx').1 with h | ⟨g2, zs, h1, h2, h3, h4, h5⟩
    · exact .inl h
    · exact .inr ⟨g2, zs, h1, h2, h3, h4.later hb0 h4.lt, h5⟩, (hx x hx').2⟩) hn hn2 hk)
  have B0 := kide hb0
  clear hr hf hx hn hb0
  go_enter Try.func13, Try.ntmps13
  go_wp2_with fail
  refine Calls.mono HC.out ?_
  rintro e w1 ⟨⟨r, hr, rfl⟩, ho⟩
  have HO := kide ((Out.below B0.out).trans ho)
  clear ho
  go_wp2_with fail
  go_ret
  exact ⟨⟨r, hr, rfl⟩, HO.out⟩

end Go.Proofs.Ytjnbapddfhpcnaa
