/- Several texts in one. -/
import Derived.Test.YtllojnloldhghaaGreatDoorZBA
import Derived.Test.YtllojnloldhghaaGreatDoorZBA
import Derived.Test.YtllojnloldhghaaGreatDoorZKX
import Derived.Test.YtllojnloldhghaaGreatDoorZKX
import Derived.Deep.RegionWith

/- Contracts of the laws' own small functions on rows of words: how long, copied, compared. -/
namespace Go.Proofs.YtllojnloldhghaaGreatDoor
set_option linter.unusedVariables false
set_option linter.unusedSimpArgs false
open Go.RowKit

/-- A word as it lies: its width, where its bits lie, how many rows of 64 there are. -/
structure Bh where
  wd : Int
  a : Option Addr
  n : Nat
  c : Nat

def RdBh (w : World) (a : Option Addr) (hs : List Bh) : Prop :=
  hs.length ≤ 1048576 ∧ (hs = [] ∨ ∃ b o, a = some ⟨b, o, none⟩ ∧ ∀ i h, hs[i]? = some h → w.cell? ⟨b, o + i * 2, none⟩ = some (.int .i64 h.wd) ∧ w.cell? ⟨b, o + i * 2 + 1, none⟩ = some (.slice h.a h.n h.c) ∧ h.n ≤ 9223372036854775807)

theorem RdBh.later {w w' : World} {a : Option Addr} {hs : List Bh} (h : RdBh w a hs) (hb : Below w.heap.size w w') : RdBh w' a hs := by
  refine ⟨h.1, ?_⟩
  rcases h.2 with h | ⟨b, o, rfl, hc⟩
  · exact .inl h
  · refine .inr ⟨b, o, rfl, fun i x hi => ?_⟩
    obtain ⟨f0, f1, f2⟩ := hc i x hi
    exact ⟨by rw [kcell hb _ _ (block_lt_of_cell f0)]; exact f0, by rw [kcell hb _ _ (block_lt_of_cell f1)]; exact f1, f2⟩

/-- What is left of L behind the rows of some words; -1: nothing. -/
def szBl : List Bh → Int → Int
  | [], L => L
  | h :: t, L => if (h.n : Int) ≤ L then szBl t (L - h.n) else -1

theorem szBl_range (hs : List Bh) (L : Int) (hL : 0 ≤ L) : szBl hs L = -1 ∨ 0 ≤ szBl hs L ∧ szBl hs L ≤ L ∧ ∀ h ∈ hs, (h.n : Int) ≤ L := by
  induction hs generalizing L with
  | nil => right; simp [szBl]; exact hL
  | cons h t ih =>
    rw [szBl]
    split
    · rename_i hc
      rcases ih (L - h.n) (by omega) with e | ⟨e1, e2, e3⟩
      · left; exact e
      · right
        refine ⟨e1, by omega, fun x hx => ?_⟩
        rcases List.mem_cons.1 hx with rfl | hx
        · exact hc
        · have := e3 x hx; omega
    · left; rfl

theorem szBitsS_in (a : Option Addr) (c : Nat) (hs : List Bh) (L : Int) (w : World) (hr : RdBh w a hs) (hL : 0 ≤ L) (hL2 : L ≤ 1048576) (h : (hs.length : Int) ≤ L) :
    Calls Tryz.prog 9 #[.slice a hs.length c, .int .i64 L] w fun e w' => e = .returned (.int .i64 (szBl hs (L - hs.length))) ∧ Below w.heap.size w w' := by
  have hlen := hr.1
  generalize hZ : szBl hs (L - hs.length) = Z
  have HZ : Hid (szBl hs (L - hs.length) = Z) := hZ
  clear hZ
  go_enter Tryz.func9, Tryz.ntmps9
  go_wp2_with fail
  go_loopw [1, 5] (fun l i wr => ∃ (k : Nat) (Q : Int), k ≤ hs.length ∧ i = .int .i64 k ∧ l = .int .i64 Q ∧ 0 ≤ Q ∧ Q ≤ 1048576 ∧ szBl (hs.drop k) Q = Z ∧ Below w.heap.size w wr) (fun _ i _ => hs.length - (intOf i).toNat)
  case atStart => exact ⟨0, _, Nat.zero_le _, rfl, rfl, by omega, by omega, by rw [List.drop_zero]; exact HZ.out, Below.refl _ _⟩
  case round =>
    obtain ⟨k, Q, hk, rfl, rfl, hQ0, hQ1, hq, hbel⟩ := hrel
    by_cases hlt : k < hs.length
    · obtain ⟨-, h | ⟨b, o, rfl, hc⟩⟩ := hr
      · subst h; simp at hlt
      obtain ⟨⟨t, a1, n1, c1⟩, hh⟩ : ∃ x, hs[k] = x := ⟨_, rfl⟩
      obtain ⟨f0, f1, f2⟩ := hc k ⟨t, a1, n1, c1⟩ (by rw [List.getElem?_eq_getElem hlt, hh])
      simp only [] at f0 f1 f2
      have g0 : wr.cell? ⟨b, o + k * 2, none⟩ = some (.int .i64 t) := by rw [hbel.cell (by exact block_lt_of_cell f0)]; exact f0
      have g1 : wr.cell? ⟨b, o + k * 2 + 1, none⟩ = some (.slice a1 n1 c1) := by rw [hbel.cell (by exact block_lt_of_cell f1)]; exact f1
      rw [List.drop_eq_getElem_cons hlt, hh, szBl] at hq
      simp only [] at hq
      have HQ : Hid _ := hq
      have HB : Hid _ := hbel
      clear hc hh f0 f1 hbel hq
      by_cases hyes : (n1 : Int) ≤ Q
      · go_wp2_with (go_at_call 36; refine (szBits_yes _ _ _ _ _ _ hQ0 hQ1 f2 hyes).mono ?_; rintro e w1 ⟨rfl, hb1⟩)
        go_roundw
        case rel =>
          have h := HQ.out
          rw [if_pos hyes] at h
          exact ⟨k + 1, _, by omega, by go_num, rfl, by omega, by omega, h, HB.out.trans (hb1.mono HB.out.size)⟩
        case measure => simp [intOf]; omega
      · have hyes' : ¬ (n1 : Int) ≤ Q := hyes
        have HY := kide hyes'
        go_wp2_with (go_at_call 36; refine (szBits_no _ _ _ _ _ _ hQ0 hQ1 f2 HY.out).mono ?_; rintro e w1 ⟨rfl, hb1⟩)
        go_ret
        have h := HQ.out
        rw [if_neg (by have := HY.out; omega)] at h
        exact ⟨ret_int h, HB.out.trans (hb1.mono HB.out.size)⟩
    · have e : k = hs.length := by omega
      rw [e, List.drop_length, szBl] at hq
      have HQ : Hid _ := hq
      clear hq
      go_wp2_with fail
      go_ret
      exact ⟨ret_int HQ.out, hbel⟩

theorem szBitsS_out (a : Option Addr) (n c : Nat) (L : Int) (w : World) (hL : 0 ≤ L) (hL2 : L ≤ 1048576) (hn : n ≤ 9223372036854775807) (h : ¬ (n : Int) ≤ L) :
    Calls Tryz.prog 9 #[.slice a n c, .int .i64 L] w fun e w' => e = .returned (.int .i64 (-1)) ∧ w' = w := by
  go_enter Tryz.func9, Tryz.ntmps9
  go_wp2_with fail
  go_ret
  exact ⟨rfl, rfl⟩

/-- A word: its width, where its bits lie, its bits. -/
structure Bw where
  wd : Int
  a : Option Addr
  c : Nat
  ws : List Nat

def Bw.ct (x : Bw) : Int × List Nat := (x.wd, x.ws)

def BwAt (w : World) (b o : Nat) (x : Bw) : Prop :=
  w.cell? ⟨b, o, none⟩ = some (.int .i64 x.wd) ∧ w.cell? ⟨b, o + 1, none⟩ = some (.slice x.a x.ws.length x.c) ∧ Rd w x.a x.ws ∧ in64 x.wd

theorem BwAt.later {w w' : World} {b o : Nat} {x : Bw} (h : BwAt w b o x) (hb : Below w.heap.size w w') : BwAt w' b o x := by
  obtain ⟨f0, f1, f2, f3⟩ := h
  exact ⟨by rw [kcell hb _ _ (block_lt_of_cell f0)]; exact f0, by rw [kcell hb _ _ (block_lt_of_cell f1)]; exact f1, f2.later hb, f3⟩

/-- A slice whose words are xs, wherever it lies. -/
def RdW (w : World) (a : Option Addr) (xs : List Bw) : Prop :=
  xs.length ≤ 1048576 ∧ (xs = [] ∨ ∃ b o, a = some ⟨b, o, none⟩ ∧ ∀ i n, xs[i]? = some n → BwAt w b (o + i * 2) n)

theorem RdW.later {w w' : World} {a : Option Addr} {xs : List Bw} (h : RdW w a xs) (hb : Below w.heap.size w w') : RdW w' a xs := by
  refine ⟨h.1, ?_⟩
  rcases h.2 with h | ⟨b, o, rfl, hc⟩
  · exact .inl h
  · exact .inr ⟨b, o, rfl, fun i n hi => (hc i n hi).later hb⟩

theorem eqBitsS_same (a b : Option Addr) (c d : Nat) (xs ys : List Bw) (w : World) (hr : RdW w a xs) (hs : RdW w b ys) (he : xs.map Bw.ct = ys.map Bw.ct) (n : Nat) (h1 : xs.length = n) (h2 : ys.length = n) :
    Calls Tryz.prog 18 #[.slice a n c, .slice b n d] w fun e w' => e = .returned (.bool true) ∧ Below w.heap.size w w' := by
  have hl1 := hr.1
  rw [h1] at hl1
  have hne : ((n : Int) != (n : Int)) = false := by simp
  have H1 := kide h1
  have H2 := kide h2
  have HE := kide he
  clear h1 h2 he
  go_enter Tryz.func18, Tryz.ntmps18
  go_wp2_with fail
  clear hne
  go_loopw [5] (fun i wr => ∃ k : Nat, k ≤ n ∧ i = .int .i64 k ∧ Below w.heap.size w wr) (fun i _ => n - (intOf i).toNat)
  case atStart => exact ⟨0, Nat.zero_le _, rfl, Below.refl _ _⟩
  case round =>
    obtain ⟨k, hk, rfl, hbel⟩ := hrel
    have HB := kide hbel
    by_cases hlt : k < n
    · obtain ⟨-, h | ⟨b1, o1, rfl, hc1⟩⟩ := hr
      · have := H1.out; subst h; simp at this; omega
      obtain ⟨-, h | ⟨b2, o2, rfl, hc2⟩⟩ := hs
      · have := H2.out; subst h; simp at this; omega
      obtain ⟨⟨s1, a1, c1, k1⟩, hx⟩ : ∃ x, xs[k]? = some x := ⟨xs[k]'(by rw [H1.out]; exact hlt), List.getElem?_eq_getElem _⟩
      obtain ⟨⟨s2, a2, c2, k2⟩, hy⟩ : ∃ y, ys[k]? = some y := ⟨ys[k]'(by rw [H2.out]; exact hlt), List.getElem?_eq_getElem _⟩
      have hxy : s1 = s2 ∧ k1 = k2 := by
        have h := congrArg (fun l => l[k]?) HE.out
        simp [hx, hy, Bw.ct] at h
        exact h
      obtain ⟨rfl, rfl⟩ := hxy
      obtain ⟨p0, p1, p2, -⟩ := (hc1 k _ hx).later hbel
      obtain ⟨q0, q1, q2, -⟩ := (hc2 k _ hy).later hbel
      simp only [] at p0 p1 p2 q0 q1 q2
      have l1 := block_lt_of_cell p0
      have l2 := block_lt_of_cell q0
      have i0 : (k : Int) < (n : Int) := by omega
      have HEQ : Hid (∀ u, Below wr.heap.size wr u → Calls Tryz.prog 51 #[.agg #[.int .i64 s1, .slice a1 k1.length c1], .agg #[.int .i64 s1, .slice a2 k1.length c2]] u fun e w' => e = .returned (.bool true) ∧ Below u.heap.size u w') := fun u hu => by
        have := eqBits_any s1 s1 a1 a2 c1 c2 k1 k1 u (p2.later hu) (q2.later hu)
        simpa using this
      clear hc1 hc2 hbel hx hy p2 q2
      go_wp2_with fail
      go_region_held3 (fun u => u.cell? ⟨b1, o1 + k * 2, none⟩ = some (Value.int .i64 s1) ∧ u.cell? ⟨b1, o1 + k * 2 + 1, none⟩ = some (Value.slice a1 k1.length c1) ∧ u.cell? ⟨b2, o2 + k * 2, none⟩ = some (Value.int .i64 s1) ∧ u.cell? ⟨b2, o2 + k * 2 + 1, none⟩ = some (Value.slice a2 k1.length c2)) (simp [*])
        ((go_at_call 51; refine Calls.mono (HEQ.out _ ?_) ?_; exact (Below.refl _ _).drew; rintro e w1 ⟨rfl, hb1⟩; replace hb1 := kundrew hb1; have k0 := kcell hb1 b1 (o1 + k * 2) l1; have k1' := kcell hb1 b1 (o1 + k * 2 + 1) l1; have k2 := kcell hb1 b2 (o2 + k * 2) l2; have k3 := kcell hb1 b2 (o2 + k * 2 + 1) l2))
      go_wp2_with fail
      go_roundw
      case rel => exact ⟨k + 1, by omega, by go_num, HB.out.trans (hb1.mono HB.out.size)⟩
      case measure => simp [intOf]; omega
    · clear hbel
      go_wp2_with fail
      go_ret
      exact ⟨rfl, HB.out⟩

theorem Tryz.infoBits : (Tryz.prog.info? 82).map (fun i => (i.zero, i.size, i.bytes)) = some (some (.agg #[.int .i64 0, .slice none 0 0]), 2, 32) := by kernel_rfl

theorem make_words (n : Nat) (hn : n ≤ 1048576) (kl kc : IntKind) (w : World) :
    (Instr.makeSlice 35 (.int kl (n : Int)) (.int kc (n : Int))).run Tryz.prog w = .ok (.slice (some ⟨w.heap.size, 0, none⟩) n n) (w.alloc (.cells (madeCells #[.int .i64 0, .slice none 0 0] (n * 2)) 82)) := by
  obtain ⟨i0, hi, hz0, hz1, hz2⟩ := info_parts Tryz.infoBits
  have := run_make (P := Tryz.prog) w 35 82 i0 _ Tryz.underlying35 hi hz0 kl kc n n (by omega) (Int.le_refl _) (by rw [hz2]; omega) (by omega)
  rw [hz1] at this
  simp only [Int.toNat_natCast] at this
  exact this

/-- A copied word: its bits lie in a block of their own. -/
def BwOwn (w : World) (G : Nat) (f : Nat → Value) (j : Nat) (x : Bw) : Prop :=
  f (j * 2) = .int .i64 x.wd ∧ f (j * 2 + 1) = .slice x.a x.ws.length x.c ∧ ∃ g, x.a = some ⟨g, 0, none⟩ ∧ G < g ∧ Own w g x.ws

theorem BwOwn.later {w w' : World} {G j : Nat} {f : Nat → Value} {x : Bw} (h : BwOwn w G f j x) (hb : Below w.heap.size w w') : BwOwn w' G f j x := by
  obtain ⟨h0, h1, g, h2, h3, h4⟩ := h
  exact ⟨h0, h1, g, h2, h3, h4.later hb h4.lt⟩

theorem BwOwn.put {w : World} {G j k : Nat} {f : Nat → Value} {x : Bw} (h : BwOwn w G f j x) (u v : Value) (hk : j < k) :
    BwOwn ((w.setCell ⟨G, k * 2, none⟩ u).setCell ⟨G, k * 2 + 1, none⟩ v) G (fun i => if i = k * 2 + 1 then v else if i = k * 2 then u else f i) j x := by
  obtain ⟨h0, h1, g, h2, h3, h4⟩ := h
  refine ⟨?_, ?_, g, h2, h3, (h4.other (by simp; omega) _).other (by simp; omega) _⟩
  · show (if _ then _ else _) = _
    rw [if_neg (by omega), if_neg (by omega)]; exact h0
  · show (if _ then _ else _) = _
    rw [if_neg (by omega), if_neg (by omega)]; exact h1

end Go.Proofs.YtllojnloldhghaaGreatDoor

/- What both ValuesOk answer. -/
namespace Go.Proofs.YtllojnloldhghaaGreatDoor
set_option linter.unusedVariables false
set_option linter.unusedSimpArgs false
open Go.RowKit

/-- Are the words right for the variables? -/
def valR (ds : List Dc) (vs : List (Int × List Nat)) : Bool :=
  dclR ds && decide (vs.length = ds.length) && (List.range vs.length).all fun i => rightB (vs.getD i (0, [])).1 (vs.getD i (0, [])).2 && decide ((vs.getD i (0, [])).1 = (ds.getD i (.empty, 0)).2)

theorem valR_iff {ds : List Dc} {vs : List (Int × List Nat)} : valR ds vs = true ↔ dclR ds = true ∧ vs.length = ds.length ∧ ∀ i, i < vs.length → rightB (vs.getD i (0, [])).1 (vs.getD i (0, [])).2 = true ∧ (vs.getD i (0, [])).1 = (ds.getD i (.empty, 0)).2 := by
  simp only [valR, Bool.and_eq_true, decide_eq_true_eq, List.all_eq_true, List.mem_range]
  exact ⟨fun h => ⟨h.1.1, h.1.2, h.2⟩, fun h => ⟨⟨h.1, h.2.1⟩, h.2.2⟩⟩

theorem valR_bad {ds : List Dc} {xs : List Bw} {k : Nat} {x : Bw} {d : Dc} (hx : xs[k]? = some x) (hd : ds[k]? = some d) (h : ¬ (rightB x.wd x.ws = true ∧ x.wd = d.2)) : valR ds (xs.map Bw.ct) = false := by
  rw [Bool.eq_false_iff]; intro h'
  have hk := (List.getElem?_eq_some_iff.1 hx).1
  have := (valR_iff.1 h').2.2 k (by simpa using hk)
  simp [List.getD, hx, hd, Bw.ct] at this
  exact h this

theorem valR_good {ds : List Dc} {xs : List Bw} (h1 : dclR ds = true) (h2 : xs.length = ds.length) (h : ∀ (i : Nat) x d, xs[i]? = some x → ds[i]? = some d → rightB x.wd x.ws = true ∧ x.wd = d.2) : valR ds (xs.map Bw.ct) = true := by
  refine valR_iff.2 ⟨h1, by simpa using h2, fun i hi => ?_⟩
  simp at hi
  have := h i xs[i] (ds[i]'(by omega)) (List.getElem?_eq_getElem hi) (List.getElem?_eq_getElem (by omega))
  simp [List.getD, hi, show i < ds.length by omega, Bw.ct]
  exact this

set_option maxHeartbeats 1000000 in
theorem implValues_any (a b : Option Addr) (c c2 : Nat) (ds : List Dc) (xs : List Bw) (w : World) (hr : RdD w a ds) (hs : RdW w b xs) (n : Nat) (hn : xs.length = n) :
    Calls Tryz.prog 43 #[.slice a ds.length c, .slice b n c2] w fun e w' => e = .returned (.bool (valR ds (xs.map Bw.ct))) ∧ Below w.heap.size w w' := by
  have hl1 := hr.1
  have hl2 := hs.1
  have HDC := kide (implDecls_any a c ds w hr)
  cases hD : dclR ds with
  | false =>
    rw [hD] at HDC
    have HR : valR ds (xs.map Bw.ct) = false := by simp [valR, hD]
    rw [HR]
    clear HR hD
    go_enter Tryz.func43, Tryz.ntmps43
    go_wp2_with fail
    refine Calls.mono HDC.out ?_
    rintro e w1 ⟨rfl, hb1⟩
    go_wp2_with fail
    go_ret
    exact ⟨rfl, hb1⟩
  | true =>
    rw [hD] at HDC
    by_cases hnd : n = ds.length
    · subst hnd
      have HG := kide (fun h => valR_good (xs := xs) hD hn h)
      have HBAD := kide (fun k x d hx hd h => valR_bad (ds := ds) (xs := xs) (k := k) (x := x) (d := d) hx hd h)
      generalize valR ds (xs.map Bw.ct) = R at *
      have HN := kide hn
      have hne : ((ds.length : Int) != (ds.length : Int)) = false := by simp
      clear hD hn hl2
      go_enter Tryz.func43, Tryz.ntmps43
      go_wp2_with fail
      refine Calls.mono HDC.out ?_
      rintro e w1 ⟨rfl, hb1⟩
      have B1 := kide hb1
      clear hb1 HDC
      go_wp2_with fail
      clear hne
      go_loopw [19] (fun i wr => ∃ k : Nat, k ≤ ds.length ∧ i = .int .i64 (k : Int) ∧ (∀ (i : Nat) x d, i < k → xs[i]? = some x → ds[i]? = some d → rightB x.wd x.ws = true ∧ x.wd = d.2) ∧ Below w.heap.size w wr) (fun i _ => ds.length - (intOf i).toNat)
      case atStart => exact ⟨0, Nat.zero_le _, rfl, fun i x d h => by omega, B1.out⟩
      case round =>
        obtain ⟨k, hk, rfl, hz, hbel⟩ := hrel
        have HZ := kide hz
        have HB := kide hbel
        by_cases hlt : k < ds.length
        · obtain ⟨-, hsz, h | ⟨b1, o1, rfl, hc1⟩⟩ := hr
          · subst h; simp at hlt
          obtain ⟨-, h | ⟨b2, o2, rfl, hc2⟩⟩ := hs
          · have := HN.out; subst h; simp at this; omega
          obtain ⟨⟨t, y⟩, gd⟩ : ∃ d, ds[k]? = some d := ⟨ds[k], List.getElem?_eq_getElem hlt⟩
          obtain ⟨⟨s1, a1, c1, k1⟩, gx⟩ : ∃ x, xs[k]? = some x := ⟨xs[k]'(by rw [HN.out]; exact hlt), List.getElem?_eq_getElem _⟩
          obtain ⟨-, q1⟩ := (hc1 k _ gd).later hbel
          obtain ⟨p0, p1, p2, p3⟩ := (hc2 k _ gx).later hbel
          obtain ⟨hy, -⟩ := hsz _ (List.mem_of_getElem? gd)
          simp only [] at q1 p0 p1 p2 p3 hy
          have HBD := kide (fun h => HBAD.out k _ _ gx gd h)
          simp only [] at HBD
          have GX := kide gx
          have GD := kide gd
          have i0 : (k : Int) < (ds.length : Int) := by omega
          have hb0 : Below wr.heap.size wr (wr.alloc (Obj.cells #[Value.int .i64 s1, Value.slice a1 k1.length c1] 82)) := (Below.refl _ _).alloc (Nat.le_refl _) _
          have HOK : Hid (∀ u, Below wr.heap.size wr u → Calls Tryz.prog 76 #[.agg #[.int .i64 s1, .slice a1 k1.length c1]] u fun e w' => e = .returned (.bool (rightB s1 k1)) ∧ Below u.heap.size u w') := fun u hu => implOk_any s1 a1 c1 k1 u (p2.later hu)
          have l1 : b1 < wr.heap.size := block_lt_of_cell q1
          have c0 : (wr.alloc (Obj.cells #[Value.int .i64 s1, Value.slice a1 k1.length c1] 82)).cell? ⟨wr.heap.size, 0, none⟩ = some (Value.int .i64 s1) := by simp
          have c1' : (wr.alloc (Obj.cells #[Value.int .i64 s1, Value.slice a1 k1.length c1] 82)).cell? ⟨wr.heap.size, 1, none⟩ = some (Value.slice a1 k1.length c1) := by simp
          have c2' : (wr.alloc (Obj.cells #[Value.int .i64 s1, Value.slice a1 k1.length c1] 82)).cell? ⟨b1, o1 + k * 2 + 1, none⟩ = some (Value.int .i64 y) := by rw [kcell hb0 _ _ l1]; exact q1
          have l0 : wr.heap.size < (wr.alloc (Obj.cells #[Value.int .i64 s1, Value.slice a1 k1.length c1] 82)).heap.size := by simp
          have l2 : b1 < (wr.alloc (Obj.cells #[Value.int .i64 s1, Value.slice a1 k1.length c1] 82)).heap.size := by simp; omega
          clear hc1 hc2 hsz gx gd hbel hz p2 HBAD
          generalize hrB : rightB s1 k1 = r at *
          have HRB := kide hrB
          clear hrB
          cases r with
          | false =>
            have HF := kide (HBD.out (by simp))
            go_wp2_with fail
            generalize wr.alloc (Obj.cells #[Value.int .i64 s1, Value.slice a1 k1.length c1] 82) = w0 at *
            clear q1 p0 p1
            have HB0 := kide hb0
            clear hb0
            first | (go_region_with (go_at_call 76; refine Calls.mono (HOK.out _ ?_) ?_; exact HB0.out.drew; rintro e w3 ⟨rfl, hb3⟩; replace hb3 := kundrew hb3; have k0 := kcell hb3 wr.heap.size 0 l0; have k1' := kcell hb3 wr.heap.size 1 l0; have k2' := kcell hb3 b1 (o1 + k * 2 + 1) l2)) | fail
            all_goals
              go_wp2_with fail
              go_ret
              exact ⟨ret_bool HF.out.symm, HB.out.trans ((HB0.out.trans (hb3.mono HB0.out.size)).mono HB.out.size)⟩
          | true =>
            have HREG := kide hb0
            by_cases hsy : s1 = y
            · have hne : (s1 != y) = false := by simp [hsy]
              have HSY := kide hsy
              clear hsy
              go_wp2_with fail
              generalize wr.alloc (Obj.cells #[Value.int .i64 s1, Value.slice a1 k1.length c1] 82) = w0 at *
              clear q1 p0 p1 hb0
              go_region_held3 (fun u => u.cell? ⟨wr.heap.size, 0, none⟩ = some (Value.int .i64 s1) ∧ u.cell? ⟨wr.heap.size, 1, none⟩ = some (Value.slice a1 k1.length c1) ∧ u.cell? ⟨b1, o1 + k * 2 + 1, none⟩ = some (Value.int .i64 y)) (simp [*])
                ((go_at_call 76; refine Calls.mono (HOK.out _ ?_) ?_; exact HREG.out.drew; rintro e w3 ⟨rfl, hb3⟩; replace hb3 := kundrew hb3; have k0 := kcell hb3 wr.heap.size 0 l0; have k1' := kcell hb3 wr.heap.size 1 l0; have k2' := kcell hb3 b1 (o1 + k * 2 + 1) l2))
              go_wp2_with fail
              go_roundw
              case rel =>
                refine ⟨k + 1, by omega, by go_num, fun i x d hi hx hd => ?_, HB.out.trans ((HREG.out.trans (hb3.mono HREG.out.size)).mono HB.out.size)⟩
                by_cases hik : i = k
                · subst hik
                  rw [GX.out] at hx
                  rw [GD.out] at hd
                  cases hx
                  cases hd
                  exact ⟨HRB.out, HSY.out⟩
                · exact HZ.out i x d (by omega) hx hd
              case measure => simp [intOf]; omega
            · have hne : (s1 != y) = true := by simp [hsy]
              have HF := kide (HBD.out (fun h => hsy h.2))
              clear hsy
              go_wp2_with fail
              generalize wr.alloc (Obj.cells #[Value.int .i64 s1, Value.slice a1 k1.length c1] 82) = w0 at *
              clear q1 p0 p1 hb0
              go_region_held3 (fun u => u.cell? ⟨wr.heap.size, 0, none⟩ = some (Value.int .i64 s1) ∧ u.cell? ⟨wr.heap.size, 1, none⟩ = some (Value.slice a1 k1.length c1) ∧ u.cell? ⟨b1, o1 + k * 2 + 1, none⟩ = some (Value.int .i64 y)) (simp [*])
                ((go_at_call 76; refine Calls.mono (HOK.out _ ?_) ?_; exact HREG.out.drew; rintro e w3 ⟨rfl, hb3⟩; replace hb3 := kundrew hb3; have k0 := kcell hb3 wr.heap.size 0 l0; have k1' := kcell hb3 wr.heap.size 1 l0; have k2' := kcell hb3 b1 (o1 + k * 2 + 1) l2))
              go_wp2_with fail
              go_ret
              exact ⟨ret_bool HF.out.symm, HB.out.trans ((HREG.out.trans (hb3.mono HREG.out.size)).mono HB.out.size)⟩
        · have e : k = ds.length := by omega
          have HR : Hid (R = true) := HG.out fun i x d hx hd => HZ.out i x d (by have := (List.getElem?_eq_some_iff.1 hd).1; omega) hx hd
          clear hz hbel e
          go_wp2_with fail
          go_ret
          exact ⟨ret_bool HR.out.symm, HB.out⟩
    · have HR : valR ds (xs.map Bw.ct) = false := by simp [valR, hn, hnd]
      rw [HR]
      have hne : ((n : Int) != (ds.length : Int)) = true := by simp; omega
      rw [hn] at hl2
      clear HR hD hn hnd
      go_enter Tryz.func43, Tryz.ntmps43
      go_wp2_with fail
      refine Calls.mono HDC.out ?_
      rintro e w1 ⟨rfl, hb1⟩
      go_wp2_with fail
      go_ret
      exact ⟨rfl, hb1⟩

end Go.Proofs.YtllojnloldhghaaGreatDoor
