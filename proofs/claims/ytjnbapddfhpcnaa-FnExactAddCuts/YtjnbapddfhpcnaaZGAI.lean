/- Several texts in one. -/
import Derived.Test.YtjnbapddfhpcnaaZGAC
import Derived.Test.YtjnbapddfhpcnaaZGAB

/- Contracts of the laws' own small functions on rows of classes: how long, compared. -/
namespace Go.Proofs.Ytjnbapddfhpcnaa
set_option linter.unusedVariables false
set_option linter.unusedSimpArgs false
open Go.RowKit

/-- A class as it lies. -/
structure Ch where
  sa : Option Addr
  sn : Nat
  sc : Nat
  fx : Bool
  bw : Int
  wa : Option Addr
  wn : Nat
  wc : Nat

def Ch.val (h : Ch) : Value := .agg #[.slice h.sa h.sn h.sc, .bool h.fx, .int .i64 h.bw, .slice h.wa h.wn h.wc]

def ChAt (w : World) (b o : Nat) (h : Ch) : Prop :=
  w.cell? ⟨b, o, none⟩ = some (.slice h.sa h.sn h.sc) ∧ w.cell? ⟨b, o + 1, none⟩ = some (.bool h.fx) ∧ w.cell? ⟨b, o + 2, none⟩ = some (.int .i64 h.bw) ∧ w.cell? ⟨b, o + 3, none⟩ = some (.slice h.wa h.wn h.wc)

theorem ChAt.later {w w' : World} {b o : Nat} {h : Ch} (k : ChAt w b o h) (hb : Below w.heap.size w w') : ChAt w' b o h := by
  obtain ⟨f0, f1, f2, f3⟩ := k
  have l := block_lt_of_cell f0
  exact ⟨by rw [kcell hb _ _ l]; exact f0, by rw [kcell hb _ _ l]; exact f1, by rw [kcell hb _ _ l]; exact f2, by rw [kcell hb _ _ l]; exact f3⟩

def RdCh (w : World) (a : Option Addr) (hs : List Ch) : Prop :=
  hs.length ≤ 1048576 ∧ (hs = [] ∨ ∃ b o, a = some ⟨b, o, none⟩ ∧ ∀ i h, hs[i]? = some h → ChAt w b (o + i * 4) h ∧ h.sn ≤ 9223372036854775807 ∧ h.wn ≤ 9223372036854775807)

theorem RdCh.later {w w' : World} {a : Option Addr} {hs : List Ch} (h : RdCh w a hs) (hb : Below w.heap.size w w') : RdCh w' a hs := by
  refine ⟨h.1, ?_⟩
  rcases h.2 with h | ⟨b, o, rfl, hc⟩
  · exact .inl h
  · exact .inr ⟨b, o, rfl, fun i x hi => ⟨(hc i x hi).1.later hb, (hc i x hi).2⟩⟩

def szC (h : Ch) (L : Int) : Int := if (h.sn : Int) ≤ L ∧ (h.wn : Int) ≤ L - h.sn then L - h.sn - h.wn else -1

/-- What is left of L behind some classes; -1: nothing. -/
def szCl : List Ch → Int → Int
  | [], L => L
  | h :: t, L => if (h.sn : Int) ≤ L ∧ (h.wn : Int) ≤ L - h.sn then szCl t (L - h.sn - h.wn) else -1

theorem szCl_range (hs : List Ch) (L : Int) (hL : 0 ≤ L) : szCl hs L = -1 ∨ 0 ≤ szCl hs L ∧ szCl hs L ≤ L ∧ ∀ h ∈ hs, (h.sn : Int) ≤ L ∧ (h.wn : Int) ≤ L := by
  induction hs generalizing L with
  | nil => right; simp [szCl]; exact hL
  | cons h t ih =>
    rw [szCl]
    split
    · rename_i hc
      rcases ih (L - h.sn - h.wn) (by omega) with e | ⟨e1, e2, e3⟩
      · left; exact e
      · right
        refine ⟨e1, by omega, fun x hx => ?_⟩
        rcases List.mem_cons.1 hx with rfl | hx
        · omega
        · have := e3 x hx; omega
    · left; rfl

/-- A class: slices, flag, word. -/
structure Cc where
  ks : List Int
  fx : Bool
  bw : Int
  ws : List Nat

/-- .. as it lies. -/
structure Cg where
  ct : Cc
  sa : Option Addr
  sc : Nat
  wa : Option Addr
  wc : Nat

def Cg.hd (x : Cg) : Ch := ⟨x.sa, x.ct.ks.length, x.sc, x.ct.fx, x.ct.bw, x.wa, x.ct.ws.length, x.wc⟩

def CgAt (w : World) (b o : Nat) (x : Cg) : Prop := ChAt w b o x.hd ∧ RdI w x.sa x.ct.ks ∧ Rd w x.wa x.ct.ws ∧ in64 x.ct.bw

theorem CgAt.later {w w' : World} {b o : Nat} {x : Cg} (h : CgAt w b o x) (hb : Below w.heap.size w w') : CgAt w' b o x := ⟨h.1.later hb, h.2.1.later hb, h.2.2.1.later hb, h.2.2.2⟩

/-- A slice whose classes are xs, wherever it lies. -/
def RdC (w : World) (a : Option Addr) (xs : List Cg) : Prop :=
  xs.length ≤ 1048576 ∧ (xs = [] ∨ ∃ b o, a = some ⟨b, o, none⟩ ∧ ∀ i n, xs[i]? = some n → CgAt w b (o + i * 4) n)

theorem RdC.later {w w' : World} {a : Option Addr} {xs : List Cg} (h : RdC w a xs) (hb : Below w.heap.size w w') : RdC w' a xs := by
  refine ⟨h.1, ?_⟩
  rcases h.2 with h | ⟨b, o, rfl, hc⟩
  · exact .inl h
  · exact .inr ⟨b, o, rfl, fun i n hi => (hc i n hi).later hb⟩

end Go.Proofs.Ytjnbapddfhpcnaa

/- Contracts of the laws' own small functions on rows of classes: compared, copied. -/
namespace Go.Proofs.Ytjnbapddfhpcnaa
set_option linter.unusedVariables false
set_option linter.unusedSimpArgs false
open Go.RowKit

end Go.Proofs.Ytjnbapddfhpcnaa

/- Copies that say where they lie: cuts, classes. -/
namespace Go.Proofs.Ytjnbapddfhpcnaa
set_option linter.unusedVariables false
set_option linter.unusedSimpArgs false
open Go.RowKit

theorem kset {w : World} {p : Addr} {a : Addr} {v : Value} {x : Value} (h : w.cell? p = some x) (hn : p.block ≠ a.block) : (w.setCell a v).cell? p = some x := by
  rw [World.cell?_setCell_far _ _ _ _ hn.symm]; exact h

theorem RdI.set {w : World} {a : Option Addr} {ks : List Int} (h : RdI w a ks) {B : Nat} (hf : ∀ b o sp, a = some ⟨b, o, sp⟩ → B ≤ b) {p : Addr} (hp : p.block < B) (v : Value) : RdI (w.setCell p v) a ks := by
  obtain ⟨h1, h2, h3⟩ := h
  refine ⟨h1, h2, ?_⟩
  rcases h3 with h3 | ⟨b, o, rfl, hc⟩
  · exact .inl h3
  · have := hf b o none rfl
    exact .inr ⟨b, o, rfl, fun i hi => kset (hc i hi) (by simp; omega)⟩

theorem Rd.set {w : World} {a : Option Addr} {ks : List Nat} (h : Rd w a ks) {B : Nat} (hf : ∀ b o sp, a = some ⟨b, o, sp⟩ → B ≤ b) {p : Addr} (hp : p.block < B) (v : Value) : Rd (w.setCell p v) a ks := by
  obtain ⟨h1, h2, h3⟩ := h
  refine ⟨h1, h2, ?_⟩
  rcases h3 with h3 | ⟨b, o, rfl, hc⟩
  · exact .inl h3
  · have := hf b o none rfl
    exact .inr ⟨b, o, rfl, fun i hi => kset (hc i hi) (by simp; omega)⟩

/-- All of it lies from the block B on. -/
def FarII (B : Nat) (a : Option Addr) (xs : List Iw) : Prop := (∀ b o sp, a = some ⟨b, o, sp⟩ → B ≤ b) ∧ ∀ x ∈ xs, ∀ b o sp, x.a = some ⟨b, o, sp⟩ → B ≤ b
theorem FarII.mono {B B' : Nat} {a : Option Addr} {xs : List Iw} (h : FarII B a xs) (hB : B' ≤ B) : FarII B' a xs := ⟨fun b o sp e => Nat.le_trans hB (h.1 b o sp e), fun x hx b o sp e => Nat.le_trans hB (h.2 x hx b o sp e)⟩

theorem RdII.set {w : World} {a : Option Addr} {xs : List Iw} (h : RdII w a xs) {B : Nat} (hf : FarII B a xs) {p : Addr} (hp : p.block < B) (v : Value) : RdII (w.setCell p v) a xs := by
  refine ⟨h.1, ?_⟩
  rcases h.2 with h3 | ⟨b, o, rfl, hc⟩
  · exact .inl h3
  · have := hf.1 b o none rfl
    exact .inr ⟨b, o, rfl, fun i n hi => ⟨kset (hc i n hi).1 (by simp; omega), (hc i n hi).2.set (hf.2 n (List.mem_of_getElem? hi)) hp v⟩⟩

def FarC (B : Nat) (a : Option Addr) (xs : List Cg) : Prop := (∀ b o sp, a = some ⟨b, o, sp⟩ → B ≤ b) ∧ ∀ x ∈ xs, (∀ b o sp, x.sa = some ⟨b, o, sp⟩ → B ≤ b) ∧ ∀ b o sp, x.wa = some ⟨b, o, sp⟩ → B ≤ b
theorem FarC.mono {B B' : Nat} {a : Option Addr} {xs : List Cg} (h : FarC B a xs) (hB : B' ≤ B) : FarC B' a xs := ⟨fun b o sp e => Nat.le_trans hB (h.1 b o sp e), fun x hx => ⟨fun b o sp e => Nat.le_trans hB ((h.2 x hx).1 b o sp e), fun b o sp e => Nat.le_trans hB ((h.2 x hx).2 b o sp e)⟩⟩

theorem RdC.set {w : World} {a : Option Addr} {xs : List Cg} (h : RdC w a xs) {B : Nat} (hf : FarC B a xs) {p : Addr} (hp : p.block < B) (v : Value) : RdC (w.setCell p v) a xs := by
  refine ⟨h.1, ?_⟩
  rcases h.2 with h3 | ⟨b, o, rfl, hc⟩
  · exact .inl h3
  · have := hf.1 b o none rfl
    refine .inr ⟨b, o, rfl, fun i n hi => ?_⟩
    obtain ⟨⟨c0, c1, c2, c3⟩, r1, r2, r3⟩ := hc i n hi
    have hn := hf.2 n (List.mem_of_getElem? hi)
    exact ⟨⟨kset c0 (by simp; omega), kset c1 (by simp; omega), kset c2 (by simp; omega), kset c3 (by simp; omega)⟩, r1.set hn.1 hp v, r2.set hn.2 hp v, r3⟩

theorem toInt64SS_far (a : Option Addr) (c : Nat) (xs : List Iw) (w : World) (hr : RdII w a xs) :
    Calls Try.prog 21 #[.slice a xs.length c] w fun e w' => ∃ ms : List Iw, e = .returned (.slice (some ⟨w.heap.size, 0, none⟩) xs.length xs.length) ∧ ms.map Iw.ks = xs.map Iw.ks ∧ RdII w' (some ⟨w.heap.size, 0, none⟩) ms ∧ FarII w.heap.size (some ⟨w.heap.size, 0, none⟩) ms ∧ Below w.heap.size w w' := by
  have hlen := hr.1
  have hmk := fun kl kc w => run_make_row' (P := Try.prog) 23 46 (.slice none 0 0) 24 Try.underlying23 Try.infoRow rfl kl kc xs.length (by omega) (by omega) w
  go_enter Try.func21, Try.ntmps21
  go_wp2_with fail
  have hrow := krow (heap_alloc_new w (.cells (madeCells #[.slice none 0 0] xs.length) 46))
  rw [size_madeCells] at hrow
  have hb0 : Below w.heap.size w (w.alloc (.cells (madeCells #[.slice none 0 0] xs.length) 46)) := (Below.refl _ _).alloc (Nat.le_refl _) _
  have hs0 : w.heap.size < (w.alloc (.cells (madeCells #[.slice none 0 0] xs.length) 46)).heap.size := by simp
  generalize (w.alloc (.cells (madeCells #[.slice none 0 0] xs.length) 46)) = w0 at *
  go_loopw [4] (fun i wr => ∃ (k : Nat) (f : Nat → Value) (ms : List Iw), k ≤ xs.length ∧ i = .int .i64 k ∧ wr.rowIs w.heap.size 46 xs.length f ∧ ms.length = k ∧ ms.map Iw.ks = (xs.take k).map Iw.ks ∧ (∀ j x, ms[j]? = some x → f j = .slice x.a x.ks.length x.c ∧ ∃ g, x.a = some ⟨g, 0, none⟩ ∧ w.heap.size < g ∧ OwnI wr g x.ks) ∧ Below w.heap.size w wr ∧ w.heap.size < wr.heap.size) (fun i _ => xs.length - (intOf i).toNat)
  case atStart => exact ⟨0, _, [], Nat.zero_le _, rfl, hrow, rfl, rfl, fun j x h => by simp at h, hb0, hs0⟩
  case round =>
    obtain ⟨k, f, ms, hk, rfl, hrw, hml, hmc, hms, hbel, hsz⟩ := hrel
    clear hrow hb0 hs0
    by_cases hlt : k < xs.length
    · obtain ⟨-, h | ⟨b, o, rfl, hc⟩⟩ := hr
      · subst h; simp at hlt
      obtain ⟨⟨a1, c1, k1⟩, hx⟩ : ∃ x, xs[k] = x := ⟨_, rfl⟩
      have gx : xs[k]? = some ⟨a1, c1, k1⟩ := by rw [List.getElem?_eq_getElem hlt, hx]
      obtain ⟨p1', p2'⟩ := (hc k _ gx).later hbel
      simp only [] at p1' p2'
      clear hx
      have GX : Hid _ := gx
      have HML : Hid _ := hml
      have HMC : Hid _ := hmc
      have HMS : Hid _ := hms
      have HR : Hid _ := hrw
      have HB : Hid _ := hbel
      have i0 : (k : Int) < (xs.length : Int) := by omega
      clear gx hml hmc hms hc hrw hbel hmk
      go_wp2_with fail
      refine (toInt64S_any _ _ _ _ p2').mono ?_
      rintro e w1 ⟨rfl, hown, hb1⟩
      have hr1 := World.rowIs.of_block HR.out (hb1.block _ hsz)
      have q1 := hr1.cell (i := k) (by omega)
      have r1 := hr1.frozen k
      have HR1 : Hid _ := hr1
      clear hr1
      go_wp2_with fail
      go_roundw
      case rel =>
        have hl := HML.out
        refine ⟨k + 1, _, ms ++ [⟨some ⟨wr.heap.size, 0, none⟩, k1.length, k1⟩], by omega, by go_num, World.rowIs.set HR1.out k (.slice (some ⟨wr.heap.size, 0, none⟩) k1.length k1.length), by simp [hl], ?_, fun j x hj => ?_, ?_, ?_⟩
        · have h := HMC.out
          rw [List.map_append, h, List.take_add_one, GX.out, List.map_append]
          rfl
        · rw [List.getElem?_append] at hj
          split at hj
          · obtain ⟨h0, g, h2, h3, h4⟩ := HMS.out j x hj
            refine ⟨?_, g, h2, h3, (h4.later hb1 h4.lt).other (by simp; omega) _⟩
            show (if _ then _ else _) = _
            rw [if_neg (by omega)]; exact h0
          · have hj2 : j - ms.length = 0 := by
              have := (List.getElem?_eq_some_iff.1 hj).1
              simp at this; exact this
            rw [hj2] at hj
            simp at hj
            subst hj
            have hjk : j = k := by omega
            subst hjk
            exact ⟨by simp, _, rfl, hsz, hown.other (by simp; omega) _⟩
        · exact (HB.out.trans (hb1.mono HB.out.size)).setCell (Nat.le_refl _) _
        · have := hb1.size
          simp; omega
      case measure => simp [intOf]; omega
    · have e : k = xs.length := by omega
      have HM : Hid _ := hml
      have HC : Hid _ := hmc
      have HS : Hid _ := hms
      have HR : Hid _ := hrw
      have HB : Hid _ := hbel
      have HE : Hid _ := e
      clear hml hmc hms hrw hbel e hmk
      go_wp2_with fail
      go_ret
      refine ⟨ms, rfl, ?_, ⟨by rw [HM.out]; omega, .inr ⟨_, 0, rfl, fun i x hi => ?_⟩⟩, ⟨fun b o sp h => by cases h; exact Nat.le_refl _, fun x hx b o sp h => ?_⟩, HB.out⟩
      · have h := HC.out
        rw [HE.out, List.take_length] at h
        exact h
      · obtain ⟨h0, g, h2, h3, h4⟩ := HS.out i x hi
        have hik : i < k := by have := (List.getElem?_eq_some_iff.1 hi).1; rw [HM.out] at this; exact this
        have hct : ∃ y, xs[i]? = some y ∧ y.ks = x.ks := by
          have h := HC.out
          rw [HE.out, List.take_length] at h
          have h' : (ms.map Iw.ks)[i]? = (xs.map Iw.ks)[i]? := by rw [h]
          rw [List.getElem?_map, List.getElem?_map, hi, Option.map_some] at h'
          cases hy : xs[i]? with
          | none => rw [hy] at h'; cases h'
          | some y => rw [hy] at h'; simp at h'; exact ⟨y, rfl, h'.symm⟩
        obtain ⟨y, hy, hyx⟩ := hct
        obtain ⟨-, hn | ⟨b, o, -, hc⟩⟩ := hr
        · subst hn; simp at hy
        obtain ⟨-, ⟨l1, l2, -⟩⟩ := hc i y hy
        rw [hyx] at l1 l2
        refine ⟨?_, ?_⟩
        · rw [Nat.zero_add, ← h0]; exact World.rowIs.cell HR.out (by omega)
        · rw [h2]
          exact OwnI.rd h4 l1 l2
      · obtain ⟨i, hi, e⟩ := List.mem_iff_getElem.1 hx
        obtain ⟨-, g, h2, h3, -⟩ := HS.out i x (by rw [List.getElem?_eq_getElem hi, e])
        rw [h2] at h
        cases h
        omega

theorem toCuts_far (a : Option Addr) (c : Nat) (xs : List Iw) (w : World) (hr : RdII w a xs) (n : Nat) (hn : xs.length = n) :
    Calls Try.prog 8 #[.agg #[.slice a n c]] w fun e w' => ∃ (g : Nat) (ms : List Iw), e = .returned (.agg #[.slice (some ⟨g, 0, none⟩) n n]) ∧ ms.map Iw.ks = xs.map Iw.ks ∧ RdII w' (some ⟨g, 0, none⟩) ms ∧ FarII w.heap.size (some ⟨g, 0, none⟩) ms ∧ Below w.heap.size w w' := by
  subst hn
  go_enter Try.func8, Try.ntmps8
  go_wp2_with fail
  refine (toInt64SS_far a c xs _ ?_).mono ?_
  · refine hr.later (Below.alloc (Below.alloc (Below.alloc (Below.refl _ _) ?_ _) ?_ _) ?_ _)
    all_goals first | exact Nat.le_refl _ | (simp; done) | (simp; omega)
  rintro e w1 ⟨ms, rfl, hms, hrd, hfar, hb⟩
  have hc := kcell hb
  have hz : w.heap.size + 1 + 1 < w1.heap.size := by have := hb.size; simp at this; omega
  have hf := kfroz hb
  have HO := kide hrd
  have HFR := kide hfar
  have HB := kide hb
  have HM := kide hms
  clear hrd hb hr hms hfar
  go_wp2_with fail
  refine bodyPost_ret (v := .agg #[.slice (some ⟨w.heap.size + 1 + 1 + 1, 0, none⟩) xs.length xs.length]) (by simp [results, Try.results8, go_sem, hc]) rfl ⟨_, ms, rfl, HM.out, ?_, ?_, ?_⟩
  · have h := HO.out
    have hf2 := HFR.out
    simp only [World.size_alloc] at h hf2
    exact (h.set hf2 (by first | (simp; done) | (simp; omega)) _).set hf2 (by first | (simp; done) | (simp; omega)) _
  · have hf2 := HFR.out
    simp only [World.size_alloc] at hf2
    exact hf2.mono (by omega)
  · have h := HB.out
    have h0 : Below w.heap.size w w1 := by
      refine Below.trans (Below.alloc (Below.alloc (Below.alloc (Below.refl _ _) ?_ _) ?_ _) ?_ _) (h.mono ?_)
      all_goals first | exact Nat.le_refl _ | (simp; done) | (simp; omega)
    exact (h0.setCell (by simp; omega) _).setCell (by simp) _


/-- A copied class: its rows lie in blocks of their own. -/
def CgOwn (w : World) (G : Nat) (f : Nat → Value) (j : Nat) (x : Cg) : Prop :=
  f (j * 4) = .slice x.sa x.ct.ks.length x.sc ∧ f (j * 4 + 1) = .bool x.ct.fx ∧ f (j * 4 + 2) = .int .i64 x.ct.bw ∧ f (j * 4 + 3) = .slice x.wa x.ct.ws.length x.wc ∧ (∃ g, x.sa = some ⟨g, 0, none⟩ ∧ G < g ∧ OwnI w g x.ct.ks) ∧ ∃ g, x.wa = some ⟨g, 0, none⟩ ∧ G < g ∧ Own w g x.ct.ws

theorem CgOwn.later {w w' : World} {G j : Nat} {f : Nat → Value} {x : Cg} (h : CgOwn w G f j x) (hb : Below w.heap.size w w') : CgOwn w' G f j x := by
  obtain ⟨h0, h1, h2, h3, ⟨g, h5, h6, h7⟩, g', h8, h9, h10⟩ := h
  exact ⟨h0, h1, h2, h3, ⟨g, h5, h6, h7.later hb h7.lt⟩, g', h8, h9, h10.later hb h10.lt⟩

theorem CgOwn.put {w w' : World} {G j k : Nat} {f f' : Nat → Value} {x : Cg} (h : CgOwn w G f j x) (hw : ∀ g, G < g → w'.heap[g]? = w.heap[g]?) (hf : ∀ i, i < k * 4 → f' i = f i) (hk : j < k) : CgOwn w' G f' j x := by
  obtain ⟨h0, h1, h2, h3, ⟨g, h5, h6, h7⟩, g', h8, h9, h10⟩ := h
  refine ⟨by rw [hf _ (by omega)]; exact h0, by rw [hf _ (by omega)]; exact h1, by rw [hf _ (by omega)]; exact h2, by rw [hf _ (by omega)]; exact h3, ⟨g, h5, h6, ?_⟩, g', h8, h9, ?_⟩
  · unfold OwnI
    rw [hw g h6]; exact h7
  · unfold Own
    rw [hw g' h9]; exact h10

end Go.Proofs.Ytjnbapddfhpcnaa
