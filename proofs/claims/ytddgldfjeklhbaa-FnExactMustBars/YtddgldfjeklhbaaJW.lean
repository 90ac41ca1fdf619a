/- Contracts of the laws' own small functions on rows of splits: compared, copied. -/
import Derived.Test.YtddgldfjeklhbaaJV
namespace Go.Proofs.Ytddgldfjeklhbaa
set_option linter.unusedVariables false
set_option linter.unusedSimpArgs false
open Go.RowKit

/-- A split: its number, its state, its bars. -/
structure Pc where
  id : Int
  st : Int
  bs : List Yc

/-- .. as it lies. -/
structure Pg where
  id : Int
  st : Int
  bs : List Yg
  a : Option Addr
  c : Nat

def Pg.ct (x : Pg) : Pc := ⟨x.id, x.st, x.bs.map Yg.ct⟩

def PgAt (w : World) (b o : Nat) (x : Pg) : Prop :=
  (w.cell? ⟨b, o, none⟩ = some (.int .i64 x.id) ∧ w.cell? ⟨b, o + 1, none⟩ = some (.int .i64 x.st) ∧ w.cell? ⟨b, o + 2, none⟩ = some (.slice x.a x.bs.length x.c)) ∧ RdBr w x.a x.bs ∧ in64 x.id ∧ in64 x.st

theorem PgAt.later {w w' : World} {b o : Nat} {x : Pg} (h : PgAt w b o x) (hb : Below w.heap.size w w') : PgAt w' b o x := by
  obtain ⟨⟨f0, f1, f2⟩, f3, f4⟩ := h
  have l := block_lt_of_cell f0
  exact ⟨⟨by rw [kcell hb _ _ l]; exact f0, by rw [kcell hb _ _ l]; exact f1, by rw [kcell hb _ _ l]; exact f2⟩, f3.later hb, f4⟩

/-- A slice whose splits are xs, wherever it lies. -/
def RdP (w : World) (a : Option Addr) (xs : List Pg) : Prop :=
  xs.length ≤ 1048576 ∧ (xs = [] ∨ ∃ b o, a = some ⟨b, o, none⟩ ∧ ∀ i n, xs[i]? = some n → PgAt w b (o + i * 3) n)

theorem RdP.later {w w' : World} {a : Option Addr} {xs : List Pg} (h : RdP w a xs) (hb : Below w.heap.size w w') : RdP w' a xs := by
  refine ⟨h.1, ?_⟩
  rcases h.2 with h | ⟨b, o, rfl, hc⟩
  · exact .inl h
  · exact .inr ⟨b, o, rfl, fun i n hi => (hc i n hi).later hb⟩

theorem eqSplit_same (id st : Int) (a b : Option Addr) (c d n : Nat) (xs ys : List Yg) (w : World) (hr : RdBr w a xs) (hs : RdBr w b ys) (he : xs.map Yg.ct = ys.map Yg.ct) (h1 : xs.length = n) (h2 : ys.length = n) :
    Calls Try.prog 26 #[.agg #[.int .i64 id, .int .i64 st, .slice a n c], .agg #[.int .i64 id, .int .i64 st, .slice b n d]] w fun e w' => e = .returned (.bool true) ∧ Below w.heap.size w w' := by
  have h3 : Below w.heap.size w ((w.alloc (Obj.cells #[Value.int .i64 id, Value.int .i64 st, Value.slice a n c] 48)).alloc (Obj.cells #[Value.int .i64 id, Value.int .i64 st, Value.slice b n d] 48)) := ((Below.refl _ _).alloc (Nat.le_refl _) _).alloc (by simp) _
  have HE := kide (fun u (hu : Below w.heap.size w u) => eqBarS_same a b c d xs ys u (hr.later hu) (hs.later hu) he n h1 h2)
  have B2 := kide h3
  have e0 : (id != id) = false := by simp
  have e1 : (st != st) = false := by simp
  clear hr hs h3 he h1 h2
  go_enter Try.func26, Try.ntmps26
  go_wp2_with fail
  refine Calls.mono (HE.out _ B2.out) ?_
  rintro e w1 ⟨rfl, hb1⟩
  go_wp2_with fail
  go_ret
  exact ⟨rfl, B2.out.trans (hb1.mono (by simp; omega))⟩

theorem eqSplitS_same (a b : Option Addr) (c d : Nat) (xs ys : List Pg) (w : World) (hr : RdP w a xs) (hs : RdP w b ys) (he : xs.map Pg.ct = ys.map Pg.ct) (n : Nat) (h1 : xs.length = n) (h2 : ys.length = n) :
    Calls Try.prog 10 #[.slice a n c, .slice b n d] w fun e w' => e = .returned (.bool true) ∧ Below w.heap.size w w' := by
  have hl1 := hr.1
  rw [h1] at hl1
  have hne : ((n : Int) != (n : Int)) = false := by simp
  have H1 := kide h1
  have H2 := kide h2
  have HE := kide he
  clear h1 h2 he
  go_enter Try.func10, Try.ntmps10
  go_wp2_with fail
  clear hne
  go_loopw [5] (fun i wr => ∃ k : Nat, k ≤ n ∧ i = .int .i64 k ∧ Below w.heap.size w wr) (fun i _ => n - (intOf i).toNat)
  case atStart => exact ⟨0, Nat.zero_le _, rfl, Below.refl _ _⟩
  case round =>
    obtain ⟨k, hk, rfl, hbel⟩ := hrel
    have HB := kide hbel
    by_cases hlt : k < n
    · obtain ⟨-, h | ⟨b1, o1, rfl, hc1⟩⟩ := hr
      · have := H1.out; subst h; simp at this; omega
      obtain ⟨-, h | ⟨b2, o2, rfl, hc2⟩⟩ := hs
      · have := H2.out; subst h; simp at this; omega
      obtain ⟨⟨id, st, bs1, a1, c1⟩, hx⟩ : ∃ x, xs[k]? = some x := ⟨xs[k]'(by rw [H1.out]; exact hlt), List.getElem?_eq_getElem _⟩
      obtain ⟨⟨id2, st2, bs2, a2, c2⟩, hy⟩ : ∃ y, ys[k]? = some y := ⟨ys[k]'(by rw [H2.out]; exact hlt), List.getElem?_eq_getElem _⟩
      have hxy : Pg.ct ⟨id, st, bs1, a1, c1⟩ = Pg.ct ⟨id2, st2, bs2, a2, c2⟩ := by
        have h := congrArg (fun l => l[k]?) HE.out
        simp [hx, hy] at h
        exact h
      simp only [Pg.ct, Pc.mk.injEq] at hxy
      obtain ⟨rfl, rfl, hbs⟩ := hxy
      have hbl : bs2.length = bs1.length := by simpa using (congrArg List.length hbs).symm
      obtain ⟨⟨p0, p1, p2⟩, pr, -⟩ := (hc1 k _ hx).later hbel
      obtain ⟨⟨q0, q1, q2⟩, qr, -⟩ := (hc2 k _ hy).later hbel
      simp only [] at p0 p1 p2 pr q0 q1 q2 qr
      rw [hbl] at q2
      have l1 := block_lt_of_cell p0
      have l2 := block_lt_of_cell q0
      have i0 : (k : Int) < (n : Int) := by omega
      have HEQ := kide (fun u (hu : Below wr.heap.size wr u) => eqSplit_same id st a1 a2 c1 c2 bs1.length bs1 bs2 u (pr.later hu) (qr.later hu) hbs rfl hbl)
      clear hc1 hc2 hbel hx hy pr qr hbs hbl
      generalize bs1.length = m at *
      go_wp2_with fail
      go_region_held3 (fun u => u.cell? ⟨b1, o1 + k * 3, none⟩ = some (Value.int .i64 id) ∧ u.cell? ⟨b1, o1 + k * 3 + 1, none⟩ = some (Value.int .i64 st) ∧ u.cell? ⟨b1, o1 + k * 3 + 2, none⟩ = some (Value.slice a1 m c1) ∧ u.cell? ⟨b2, o2 + k * 3, none⟩ = some (Value.int .i64 id) ∧ u.cell? ⟨b2, o2 + k * 3 + 1, none⟩ = some (Value.int .i64 st) ∧ u.cell? ⟨b2, o2 + k * 3 + 2, none⟩ = some (Value.slice a2 m c2)) (simp [*])
        ((go_at_call 26; refine Calls.mono (HEQ.out _ ?_) ?_; exact (Below.refl _ _).drew; rintro e w1 ⟨rfl, hb1⟩; replace hb1 := kundrew hb1; have k0 := kcell hb1 b1 (o1 + k * 3) l1; have k1 := kcell hb1 b1 (o1 + k * 3 + 1) l1; have k2 := kcell hb1 b1 (o1 + k * 3 + 2) l1; have j0 := kcell hb1 b2 (o2 + k * 3) l2; have j1 := kcell hb1 b2 (o2 + k * 3 + 1) l2; have j2 := kcell hb1 b2 (o2 + k * 3 + 2) l2))
      go_wp2_with fail
      go_roundw
      case rel => exact ⟨k + 1, by omega, by go_num, HB.out.trans (hb1.mono HB.out.size)⟩
      case measure => simp [intOf]; omega
    · clear hbel
      go_wp2_with fail
      go_ret
      exact ⟨rfl, HB.out⟩

theorem toSplit_far (id st : Int) (a : Option Addr) (c : Nat) (bs : List Yg) (w : World) (hr : RdBr w a bs) :
    Calls Try.prog 21 #[.agg #[.int .i64 id, .int .i64 st, .slice a bs.length c]] w fun e w' => ∃ (g : Nat) (ms : List Yg), e = .returned (.agg #[.int .i64 id, .int .i64 st, .slice (some ⟨g, 0, none⟩) bs.length bs.length]) ∧ ms.map Yg.ct = bs.map Yg.ct ∧ RdBr w' (some ⟨g, 0, none⟩) ms ∧ FarB w.heap.size (some ⟨g, 0, none⟩) ms ∧ Below w.heap.size w w' := by
  go_enter Try.func21, Try.ntmps21
  go_wp2_with fail
  have h3 : Below w.heap.size w (((w.alloc (Obj.cells #[Value.int .i64 id, Value.int .i64 st, Value.slice a bs.length c] 46)).alloc (Obj.cells #[Value.int .i64 0, Value.int .i64 0, Value.slice none 0 0] 48)).alloc (Obj.cells #[Value.int .i64 id, Value.int .i64 st, Value.slice none 0 0] 48)) := (((Below.refl _ _).alloc (Nat.le_refl _) _).alloc (by simp) _).alloc (by simp; omega) _
  refine (toBarS_far a c bs _ (hr.later h3)).mono ?_
  rintro e w1 ⟨ms, rfl, hms, hrd, hfar, hb⟩
  obtain ⟨hc, hf⟩ := bcell hb
  have hz : w.heap.size + 1 + 1 < w1.heap.size := by have := hb.size; simp at this; omega
  have HO := kide hrd
  have HFR : Hid (FarB (w.heap.size + 3) (some ⟨w.heap.size + 3, 0, none⟩) ms) := by have h := hfar; simp at h; exact h
  have HB := kide (h3.trans (hb.mono h3.size))
  have HM := kide hms
  clear hrd hb hr h3 hms hfar
  go_wp2_with fail
  refine bodyPost_ret (v := .agg #[.int .i64 id, .int .i64 st, .slice (some ⟨w.heap.size + 1 + 1 + 1, 0, none⟩) bs.length bs.length]) (by simp [results, Try.results21, go_sem, hc]) rfl ⟨_, ms, rfl, HM.out, ?_, ?_, ?_⟩
  · have h := HO.out
    simp only [World.size_alloc] at h
    repeat (refine RdBr.set ?_ HFR.out (by first | (simp; done) | (simp; omega)) _)
    exact h
  · exact FarB.mono HFR.out (by omega)
  · repeat (refine Below.setCell ?_ (by first | (simp; done) | (simp; omega)) _)
    exact HB.out

end Go.Proofs.Ytddgldfjeklhbaa
