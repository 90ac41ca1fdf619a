/- Several texts in one. -/
import Derived.Test.YthoiajpbpoglfaaZKAC
import Derived.Test.YthoiajpbpoglfaaZKAB
import Derived.Test.YthoiajpbpoglfaaZKAJ
import Derived.Deep.RegionHeld3
import Derived.Deep.RegionHeldLaw
import Derived.Deep.RegionWith

/- What the program's GraphOk answers. -/
namespace Go.Proofs.Ythoiajpbpoglfaa
set_option linter.unusedVariables false
set_option linter.unusedSimpArgs false
open Go.RowKit

/-- A call's own box of two cells still stands. -/
def Bx (w : World) (o1 : Obj) (wk : World) : Prop := Below (w.heap.size + 1) (w.alloc o1) wk
theorem Bx.start (w : World) (o1 : Obj) : Bx w o1 (w.alloc o1) := Below.refl _ _
theorem Bx.size {w wk : World} {o1 : Obj} (h : Bx w o1 wk) : w.heap.size + 1 ≤ wk.heap.size := by have := Below.size h; simpa using this
theorem Bx.next {w wk w1 : World} {o1 : Obj} (h : Bx w o1 wk) (hb : Below wk.heap.size wk w1) : Bx w o1 w1 := Below.trans h (hb.mono h.size)
theorem Bx.box {w wk : World} {o1 : Obj} (h : Bx w o1 wk) (o2 : Obj) : Bx w o1 (wk.alloc o2) := h.next ((Below.refl _ _).alloc (Nat.le_refl _) _)
theorem Bx.below {w wk : World} {o1 : Obj} (h : Bx w o1 wk) : Below w.heap.size w wk := Below.trans (Below.alloc (Below.refl _ _) (Nat.le_refl _) _) (Below.mono h (by omega))
theorem Bx.one {w wk : World} {cs : Array Value} {t : TypeId} (h : Bx w (.cells cs t) wk) (i : Nat) : wk.cell? ⟨w.heap.size, i, none⟩ = cs[i]? := by
  rw [Below.cell h (by simp)]; simp [go_sem]
theorem Bx.drew {w wk : World} {o1 : Obj} (h : Bx w o1 wk) : Bx w o1 wk.drew := Below.drew h

set_option maxHeartbeats 1000000 in
theorem implGraph_any (z : Gz) (w : World) (hz : RdG w z) :
    Calls Try.prog 33 #[z.val] w fun e w' => e = .returned (.bool (graphR z.ks (z.bs.map Yg.ct))) ∧ Below w.heap.size w w' := by
  obtain ⟨a1, c1, ks, a2, c2, bs⟩ := z
  obtain ⟨z1, z2⟩ := hz
  simp only [Gz.val] at z1 z2 ⊢
  have hl1 := z1.1
  have hl2 := z2.1
  have s0 := Bx.start w (.cells #[Value.slice a1 ks.length c1, Value.slice a2 bs.length c2] 32)
  by_cases hlong : 200 < ks.length ∨ 1000 < bs.length
  · rw [graphR_long (by simpa using hlong)]
    rcases hlong with h | h
    · go_enter Try.func33, Try.ntmps33
      go_wp2_with fail
      go_ret
      exact ⟨rfl, s0.below⟩
    · by_cases h1 : 200 < ks.length
      all_goals
        go_enter Try.func33, Try.ntmps33
        go_wp2_with fail
        go_ret
        exact ⟨rfl, s0.below⟩
  have hs1 : ks.length ≤ 200 := by omega
  have hs2 : bs.length ≤ 1000 := by omega
  generalize hZ : graphR ks (bs.map Yg.ct) = Z
  have HZ := kide hZ
  have HR1 := kide (fun u (hu : Below w.heap.size w u) => z1.later hu)
  have HR2 := kide (fun u (hu : Below w.heap.size w u) => z2.later hu)
  clear hZ hlong z1 z2
  go_enter Try.func33, Try.ntmps33
  go_wp2_with fail
  go_loopw [20] (fun i wr => ∃ k : Nat, k ≤ ks.length ∧ i = .int .i64 k ∧ (∀ j, j < k → wOk (ks.getD j 0) = true) ∧ Bx w (.cells #[Value.slice a1 ks.length c1, Value.slice a2 bs.length c2] 32) wr) (fun i _ => ks.length - (intOf i).toNat)
  case atStart => exact ⟨0, Nat.zero_le _, rfl, fun j hj => by omega, s0⟩
  case round =>
    obtain ⟨k, hk, rfl, hok, s1⟩ := hrel
    by_cases hlt : k < ks.length
    · obtain ⟨-, -, h | ⟨b, o, rfl, hc⟩⟩ := HR1.out wr s1.below
      · subst h; simp at hlt
      obtain ⟨x, hx⟩ : ∃ x, ks.getD k 0 = x := ⟨_, rfl⟩
      have p0 := hc k hlt
      rw [hx] at p0
      have hki : (k : Int) < (ks.length : Int) := by omega
      have HX := kide hx
      have HK := kide hok
      have HW := kide (fun u => widthOk_any x u)
      clear hc hx hok s0
      cases hw : wOk x with
      | false =>
        have HF := kide (graphR_wide (bs := bs.map Yg.ct) hlt (by rw [HX.out]; exact hw))
        rw [hw] at HW
        clear hw
        go_wp2_with (go_at_call 63; refine Calls.mono (HW.out _) ?_; rintro e w1 ⟨rfl, rfl⟩)
        go_ret
        exact ⟨ret_bool (HF.out.symm.trans HZ.out), s1.below⟩
      | true =>
        rw [hw] at HW
        have HWW := kide hw
        clear hw
        go_wp2_with (go_at_call 63; refine Calls.mono (HW.out _) ?_; rintro e w1 ⟨rfl, rfl⟩)
        go_roundw
        case rel =>
          refine ⟨k + 1, by omega, by go_num, fun j hj => ?_, s1⟩
          by_cases hjk : j < k
          · exact HK.out j hjk
          · have : j = k := by omega
            subst this
            rw [HX.out]; exact HWW.out
        case measure => simp [intOf]; omega
    · have e : k = ks.length := by omega
      subst e
      have HK := kide hok
      clear hok s0 hlt
      have g1 := s1.one 1
      simp at g1
      go_wp2_with fail
      obtain ⟨wo, hwo⟩ : ∃ wo, wo = wr := ⟨_, rfl⟩
      subst hwo
      go_loopw [31] (fun i wr => ∃ k : Nat, k ≤ bs.length ∧ i = .int .i64 k ∧ (∀ (j : Nat) (s : Yg), j < k → bs[j]? = some s → brOk ks s.ct = true) ∧ Bx w (.cells #[Value.slice a1 ks.length c1, Value.slice a2 bs.length c2] 32) wr) (fun i _ => bs.length - (intOf i).toNat)
      case atStart => exact ⟨0, Nat.zero_le _, rfl, fun j s hj => by omega, s1⟩
      case round =>
        obtain ⟨k, hk, rfl, hok, s2⟩ := hrel
        by_cases hlt : k < bs.length
        · obtain ⟨-, h | ⟨b, o, rfl, hc⟩⟩ := HR2.out wr s2.below
          · subst h; simp at hlt
          obtain ⟨⟨s, ax, cs⟩, hx⟩ : ∃ x, bs[k]? = some x := ⟨_, List.getElem?_eq_getElem hlt⟩
          obtain ⟨⟨p0, p1, p2, p3⟩, pr, -⟩ := hc k _ hx
          simp only [Yg.hd] at p0 p1 p2 p3 pr
          have hki : (k : Int) < (bs.length : Int) := by omega
          have HX := kide hx
          have HK2 := kide hok
          have s3 := s2.box (.cells #[Value.int .i64 s.v, Value.int .i64 s.lo, Value.int .i64 s.bw, Value.slice ax s.ws.length cs] 86)
          have HBO := kide (barOk_any a1 (some ⟨b, o, none⟩) c1 bs.length c2 ks s ax cs _ (HR1.out _ s3.below) (pr.later ((Below.refl _ _).alloc (Nat.le_refl _) (.cells #[Value.int .i64 s.v, Value.int .i64 s.lo, Value.int .i64 s.bw, Value.slice ax s.ws.length cs] 86))))
          have HBAD : Hid (brOk ks s = false → Z = false) := fun h => HZ.out.symm.trans (graphR_bar (k := k) (s := s) (by rw [List.getElem?_map, hx]; rfl) h)
          have HGOOD : Hid (brOk ks s = true → ∀ (j : Nat) (t : Yg), j < k + 1 → bs[j]? = some t → brOk ks t.ct = true) := fun h j t hj ht => by
            by_cases hjk : j < k
            · exact hok j t hjk ht
            · have : j = k := by omega
              subst this
              rw [hx] at ht
              cases ht
              exact h
          have g0 := s2.one 0
          have g1' := s2.one 1
          simp at g0 g1'
          obtain ⟨v, lo, bw, ws⟩ := s
          simp only [] at p0 p1 p2 p3 s3 HBO
          generalize brOk ks ⟨v, lo, bw, ws⟩ = B at *
          have hwl : w.heap.size < wr.heap.size := s2.size
          clear hc hx hok s1 pr g1
          cases B with
          | false =>
            have HF := kide (HBAD.out rfl)
            go_wp2_with fail
            refine Calls.mono HBO.out ?_
            rintro e w1 ⟨rfl, hb1⟩
            have s4 := s3.next hb1
            go_wp2_with fail
            go_ret
            exact ⟨ret_bool HF.out.symm, s4.below⟩
          | true =>
            have HF := kide (HGOOD.out rfl)
            go_wp2_with fail
            refine Calls.mono HBO.out ?_
            rintro e w1 ⟨rfl, hb1⟩
            have s4 := s3.next hb1
            go_wp2_with fail
            go_roundw
            case rel => exact ⟨k + 1, by omega, by go_num, HF.out, s4⟩
            case measure => simp [intOf]; omega
        · have e : k = bs.length := by omega
          subst e
          have HT := kide (graphR_good (bs := bs.map Yg.ct) hs1 (by simpa using hs2) HK.out (fun j s hj => by
            rw [List.getElem?_map] at hj
            cases hb : bs[j]? with
            | none => rw [hb] at hj; cases hj
            | some t =>
              rw [hb] at hj
              cases hj
              exact hok j t (List.getElem?_eq_some_iff.1 hb).1 hb))
          clear hok s1
          go_wp2_with fail
          go_ret
          exact ⟨ret_bool (HT.out.symm.trans HZ.out), s2.below⟩

end Go.Proofs.Ythoiajpbpoglfaa

/- Contracts of the laws' own small functions on rows of words: how long, copied, compared. -/
namespace Go.Proofs.Ythoiajpbpoglfaa
set_option linter.unusedVariables false
set_option linter.unusedSimpArgs false
open Go.RowKit

/-- A word as it lies: its width, where its bits lie, how many rows of 64 there are. -/
structure Bh where
  wd : Int
  a : Option Addr
  n : Nat
  c : Nat

def RdBh (w : World) (a : Option Addr) (hs : List Bh) : Prop :=
  hs.length ≤ 1048576 ∧ (hs = [] ∨ ∃ b o, a = some ⟨b, o, none⟩ ∧ ∀ i h, hs[i]? = some h → w.cell? ⟨b, o + i * 2, none⟩ = some (.int .i64 h.wd) ∧ w.cell? ⟨b, o + i * 2 + 1, none⟩ = some (.slice h.a h.n h.c) ∧ h.n ≤ 9223372036854775807)

theorem RdBh.later {w w' : World} {a : Option Addr} {hs : List Bh} (h : RdBh w a hs) (hb : Below w.heap.size w w') : RdBh w' a hs := by
  refine ⟨h.1, ?_⟩
  rcases h.2 with h | ⟨b, o, rfl, hc⟩
  · exact .inl h
  · refine .inr ⟨b, o, rfl, fun i x hi => ?_⟩
    obtain ⟨f0, f1, f2⟩ := hc i x hi
    exact ⟨by rw [kcell hb _ _ (block_lt_of_cell f0)]; exact f0, by rw [kcell hb _ _ (block_lt_of_cell f1)]; exact f1, f2⟩

/-- What is left of L behind the rows of some words; -1: nothing. -/
def szBl : List Bh → Int → Int
  | [], L => L
  | h :: t, L => if (h.n : Int) ≤ L then szBl t (L - h.n) else -1

theorem szBl_range (hs : List Bh) (L : Int) (hL : 0 ≤ L) : szBl hs L = -1 ∨ 0 ≤ szBl hs L ∧ szBl hs L ≤ L ∧ ∀ h ∈ hs, (h.n : Int) ≤ L := by
  induction hs generalizing L with
  | nil => right; simp [szBl]; exact hL
  | cons h t ih =>
    rw [szBl]
    split
    · rename_i hc
      rcases ih (L - h.n) (by omega) with e | ⟨e1, e2, e3⟩
      · left; exact e
      · right
        refine ⟨e1, by omega, fun x hx => ?_⟩
        rcases List.mem_cons.1 hx with rfl | hx
        · exact hc
        · have := e3 x hx; omega
    · left; rfl



/-- A word: its width, where its bits lie, its bits. -/
structure Bw where
  wd : Int
  a : Option Addr
  c : Nat
  ws : List Nat

def Bw.ct (x : Bw) : Int × List Nat := (x.wd, x.ws)

def BwAt (w : World) (b o : Nat) (x : Bw) : Prop :=
  w.cell? ⟨b, o, none⟩ = some (.int .i64 x.wd) ∧ w.cell? ⟨b, o + 1, none⟩ = some (.slice x.a x.ws.length x.c) ∧ Rd w x.a x.ws ∧ in64 x.wd

theorem BwAt.later {w w' : World} {b o : Nat} {x : Bw} (h : BwAt w b o x) (hb : Below w.heap.size w w') : BwAt w' b o x := by
  obtain ⟨f0, f1, f2, f3⟩ := h
  exact ⟨by rw [kcell hb _ _ (block_lt_of_cell f0)]; exact f0, by rw [kcell hb _ _ (block_lt_of_cell f1)]; exact f1, f2.later hb, f3⟩

/-- A slice whose words are xs, wherever it lies. -/
def RdW (w : World) (a : Option Addr) (xs : List Bw) : Prop :=
  xs.length ≤ 1048576 ∧ (xs = [] ∨ ∃ b o, a = some ⟨b, o, none⟩ ∧ ∀ i n, xs[i]? = some n → BwAt w b (o + i * 2) n)

theorem RdW.later {w w' : World} {a : Option Addr} {xs : List Bw} (h : RdW w a xs) (hb : Below w.heap.size w w') : RdW w' a xs := by
  refine ⟨h.1, ?_⟩
  rcases h.2 with h | ⟨b, o, rfl, hc⟩
  · exact .inl h
  · exact .inr ⟨b, o, rfl, fun i n hi => (hc i n hi).later hb⟩

theorem eqBitsS_same (a b : Option Addr) (c d : Nat) (xs ys : List Bw) (w : World) (hr : RdW w a xs) (hs : RdW w b ys) (he : xs.map Bw.ct = ys.map Bw.ct) (n : Nat) (h1 : xs.length = n) (h2 : ys.length = n) :
    Calls Try.prog 10 #[.slice a n c, .slice b n d] w fun e w' => e = .returned (.bool true) ∧ Below w.heap.size w w' := by
  have hl1 := hr.1
  rw [h1] at hl1
  have hne : ((n : Int) != (n : Int)) = false := by simp
  have H1 := kide h1
  have H2 := kide h2
  have HE := kide he
  clear h1 h2 he
  go_enter Try.func10, Try.ntmps10
  go_wp2_with fail
  clear hne
  go_loopw [5] (fun i wr => ∃ k : Nat, k ≤ n ∧ i = .int .i64 k ∧ Below w.heap.size w wr) (fun i _ => n - (intOf i).toNat)
  case atStart => exact ⟨0, Nat.zero_le _, rfl, Below.refl _ _⟩
  case round =>
    obtain ⟨k, hk, rfl, hbel⟩ := hrel
    have HB := kide hbel
    by_cases hlt : k < n
    · obtain ⟨-, h | ⟨b1, o1, rfl, hc1⟩⟩ := hr
      · have := H1.out; subst h; simp at this; omega
      obtain ⟨-, h | ⟨b2, o2, rfl, hc2⟩⟩ := hs
      · have := H2.out; subst h; simp at this; omega
      obtain ⟨⟨s1, a1, c1, k1⟩, hx⟩ : ∃ x, xs[k]? = some x := ⟨xs[k]'(by rw [H1.out]; exact hlt), List.getElem?_eq_getElem _⟩
      obtain ⟨⟨s2, a2, c2, k2⟩, hy⟩ : ∃ y, ys[k]? = some y := ⟨ys[k]'(by rw [H2.out]; exact hlt), List.getElem?_eq_getElem _⟩
      have hxy : s1 = s2 ∧ k1 = k2 := by
        have h := congrArg (fun l => l[k]?) HE.out
        simp [hx, hy, Bw.ct] at h
        exact h
      obtain ⟨rfl, rfl⟩ := hxy
      obtain ⟨p0, p1, p2, -⟩ := (hc1 k _ hx).later hbel
      obtain ⟨q0, q1, q2, -⟩ := (hc2 k _ hy).later hbel
      simp only [] at p0 p1 p2 q0 q1 q2
      have l1 := block_lt_of_cell p0
      have l2 := block_lt_of_cell q0
      have i0 : (k : Int) < (n : Int) := by omega
      have HEQ : Hid (∀ u, Below wr.heap.size wr u → Calls Try.prog 38 #[.agg #[.int .i64 s1, .slice a1 k1.length c1], .agg #[.int .i64 s1, .slice a2 k1.length c2]] u fun e w' => e = .returned (.bool true) ∧ Below u.heap.size u w') := fun u hu => by
        have := eqBits_any s1 s1 a1 a2 c1 c2 k1 k1 u (p2.later hu) (q2.later hu)
        simpa using this
      clear hc1 hc2 hbel hx hy p2 q2
      go_wp2_with fail
      go_region_held3 (fun u => u.cell? ⟨b1, o1 + k * 2, none⟩ = some (Value.int .i64 s1) ∧ u.cell? ⟨b1, o1 + k * 2 + 1, none⟩ = some (Value.slice a1 k1.length c1) ∧ u.cell? ⟨b2, o2 + k * 2, none⟩ = some (Value.int .i64 s1) ∧ u.cell? ⟨b2, o2 + k * 2 + 1, none⟩ = some (Value.slice a2 k1.length c2)) (simp [*])
        ((go_at_call 38; refine Calls.mono (HEQ.out _ ?_) ?_; exact (Below.refl _ _).drew; rintro e w1 ⟨rfl, hb1⟩; replace hb1 := kundrew hb1; have k0 := kcell hb1 b1 (o1 + k * 2) l1; have k1' := kcell hb1 b1 (o1 + k * 2 + 1) l1; have k2 := kcell hb1 b2 (o2 + k * 2) l2; have k3 := kcell hb1 b2 (o2 + k * 2 + 1) l2))
      go_wp2_with fail
      go_roundw
      case rel => exact ⟨k + 1, by omega, by go_num, HB.out.trans (hb1.mono HB.out.size)⟩
      case measure => simp [intOf]; omega
    · clear hbel
      go_wp2_with fail
      go_ret
      exact ⟨rfl, HB.out⟩

theorem Try.infoBits : (Try.prog.info? 48).map (fun i => (i.zero, i.size, i.bytes)) = some (some (.agg #[.int .i64 0, .slice none 0 0]), 2, 32) := by kernel_rfl

theorem make_words (n : Nat) (hn : n ≤ 1048576) (kl kc : IntKind) (w : World) :
    (Instr.makeSlice 27 (.int kl (n : Int)) (.int kc (n : Int))).run Try.prog w = .ok (.slice (some ⟨w.heap.size, 0, none⟩) n n) (w.alloc (.cells (madeCells #[.int .i64 0, .slice none 0 0] (n * 2)) 48)) := by
  obtain ⟨i0, hi, hz0, hz1, hz2⟩ := info_parts Try.infoBits
  have := run_make (P := Try.prog) w 27 48 i0 _ Try.underlying27 hi hz0 kl kc n n (by omega) (Int.le_refl _) (by rw [hz2]; omega) (by omega)
  rw [hz1] at this
  simp only [Int.toNat_natCast] at this
  exact this

/-- A copied word: its bits lie in a block of their own. -/
def BwOwn (w : World) (G : Nat) (f : Nat → Value) (j : Nat) (x : Bw) : Prop :=
  f (j * 2) = .int .i64 x.wd ∧ f (j * 2 + 1) = .slice x.a x.ws.length x.c ∧ ∃ g, x.a = some ⟨g, 0, none⟩ ∧ G < g ∧ Own w g x.ws

theorem BwOwn.later {w w' : World} {G j : Nat} {f : Nat → Value} {x : Bw} (h : BwOwn w G f j x) (hb : Below w.heap.size w w') : BwOwn w' G f j x := by
  obtain ⟨h0, h1, g, h2, h3, h4⟩ := h
  exact ⟨h0, h1, g, h2, h3, h4.later hb h4.lt⟩

theorem BwOwn.put {w : World} {G j k : Nat} {f : Nat → Value} {x : Bw} (h : BwOwn w G f j x) (u v : Value) (hk : j < k) :
    BwOwn ((w.setCell ⟨G, k * 2, none⟩ u).setCell ⟨G, k * 2 + 1, none⟩ v) G (fun i => if i = k * 2 + 1 then v else if i = k * 2 then u else f i) j x := by
  obtain ⟨h0, h1, g, h2, h3, h4⟩ := h
  refine ⟨?_, ?_, g, h2, h3, (h4.other (by simp; omega) _).other (by simp; omega) _⟩
  · show (if _ then _ else _) = _
    rw [if_neg (by omega), if_neg (by omega)]; exact h0
  · show (if _ then _ else _) = _
    rw [if_neg (by omega), if_neg (by omega)]; exact h1


end Go.Proofs.Ythoiajpbpoglfaa

/- What a law knows of the memory that it has made: boxes of two cells, rows of words in new blocks; how that lasts behind calls. -/
namespace Go.Proofs.Ythoiajpbpoglfaa
set_option linter.unusedVariables false
set_option linter.unusedSimpArgs false
open Go.RowKit

theorem Ba {w wk : World} (h : Below w.heap.size w wk) (o : Obj) : Below w.heap.size w (wk.alloc o) := h.alloc h.size o

/-- The block β is a box of two cells. -/
def Blk (w : World) (β : Nat) (x y : Value) (t : TypeId) : Prop := w.heap[β]? = some (.cells #[x, y] t (0, 0))

theorem Blk.cells {w : World} {β : Nat} {x y : Value} {t : TypeId} (h : Blk w β x y t) : w.cell? ⟨β, 0, none⟩ = some x ∧ w.cell? ⟨β, 1, none⟩ = some y :=
  ⟨cell_of_row w β 0 _ _ _ h, cell_of_row w β 1 _ _ _ h⟩
theorem Blk.lt {w : World} {β : Nat} {x y : Value} {t : TypeId} (h : Blk w β x y t) : β < w.heap.size := lt_of_block h
theorem Blk.next {w w' : World} {β : Nat} {x y : Value} {t : TypeId} (h : Blk w β x y t) (hb : Below w.heap.size w w') : Blk w' β x y t := by
  unfold Blk
  rw [hb.block β h.lt]; exact h
theorem Blk.new (w : World) (x y : Value) (t : TypeId) : Blk (w.alloc (.cells #[x, y] t)) w.heap.size x y t := heap_alloc_new _ _
theorem Blk.alloc {w : World} {β : Nat} {x y : Value} {t : TypeId} (h : Blk w β x y t) (o : Obj) : Blk (w.alloc o) β x y t := h.next ((Below.refl _ _).alloc (Nat.le_refl _) _)

/-- Words in a block of their own whose number lies in lo .. hi - 1, or none at all. -/
def Fr (w : World) (lo hi : Nat) (a : Option Addr) (ys : List Nat) : Prop := (ys = [] ∧ a = none) ∨ ∃ g, a = some ⟨g, 0, none⟩ ∧ lo ≤ g ∧ g < hi ∧ Own w g ys

theorem Fresh.fr {w : World} {lo : Nat} {a : Option Addr} {ys : List Nat} (h : Fresh w lo a ys) : Fr w lo w.heap.size a ys := by
  rcases h with h | ⟨g, rfl, hg, ho⟩
  · exact .inl h
  · exact .inr ⟨g, rfl, hg, ho.lt, ho⟩
theorem Own.fr {w : World} {lo g : Nat} {ys : List Nat} (h : Own w g ys) (hg : lo ≤ g) : Fr w lo w.heap.size (some ⟨g, 0, none⟩) ys := .inr ⟨g, rfl, hg, h.lt, h⟩
theorem Fr.next {w w' : World} {lo hi : Nat} {a : Option Addr} {ys : List Nat} (h : Fr w lo hi a ys) (hb : Below w.heap.size w w') : Fr w' lo hi a ys := by
  rcases h with h | ⟨g, rfl, h1, h2, ho⟩
  · exact .inl h
  · exact .inr ⟨g, rfl, h1, h2, ho.later hb ho.lt⟩
theorem Fr.alloc {w : World} {lo hi : Nat} {a : Option Addr} {ys : List Nat} (h : Fr w lo hi a ys) (o : Obj) : Fr (w.alloc o) lo hi a ys := h.next ((Below.refl _ _).alloc (Nat.le_refl _) _)
theorem Fr.rd {w : World} {lo hi : Nat} {a : Option Addr} {ys : List Nat} (h : Fr w lo hi a ys) (hl : ys.length ≤ 1048576) (hx : ∀ x ∈ ys, x < 18446744073709551616) : Rd w a ys := by
  rcases h with ⟨rfl, rfl⟩ | ⟨g, rfl, h1, h2, ho⟩
  · exact ⟨hl, hx, .inl rfl⟩
  · exact ho.rd hl hx

/-- What marking the words at a has done to the world. -/
def Marked (w w' : World) (a : Option Addr) : Prop := w.grownBy w' (a.map Addr.block)

theorem Blk.mark {w w' : World} {β lo hi : Nat} {x y : Value} {t : TypeId} {a : Option Addr} {ys : List Nat} (h : Blk w β x y t) (hf : Fr w lo hi a ys) (hm : Marked w w' a) (ht : t ≠ 88) : Blk w' β x y t := by
  unfold Blk
  rw [World.grownBy.block hm β h.lt ?_]
  · exact h
  · rcases hf with ⟨_, rfl⟩ | ⟨g, rfl, _, _, ho⟩
    · simp
    · simp only [Option.map_some, ne_eq, Option.some.injEq]
      rintro rfl
      unfold Blk at h
      unfold Own at ho
      rw [h] at ho
      simp at ho
      exact ht ho.2

theorem Fr.mark {w w' : World} {lo hi lo' hi' : Nat} {a b : Option Addr} {ys zs : List Nat} (h : Fr w lo hi a ys) (hf : Fr w lo' hi' b zs) (hm : Marked w w' b) (hd : hi ≤ lo' ∨ hi' ≤ lo) : Fr w' lo hi a ys := by
  rcases h with h | ⟨g, rfl, h1, h2, ho⟩
  · exact .inl h
  · refine .inr ⟨g, rfl, h1, h2, ?_⟩
    unfold Own
    rw [World.grownBy.block hm g ho.lt ?_]
    · exact ho
    · rcases hf with ⟨_, rfl⟩ | ⟨g', rfl, k1, k2, _⟩
      · simp
      · simp only [Option.map_some, ne_eq, Option.some.injEq]
        omega

theorem Marked.below {w0 w w' : World} {lo hi : Nat} {a : Option Addr} {ys : List Nat} (hm : Marked w w' a) (hf : Fr w lo hi a ys) (hb : Below w0.heap.size w0 w) (hl : w0.heap.size ≤ lo) : Below w0.heap.size w0 w' := by
  refine hb.grown hm hb.size ?_
  intro k hk
  rcases hf with ⟨_, rfl⟩ | ⟨g, rfl, k1, k2, _⟩
  · simp at hk
  · simp at hk; omega
theorem Marked.size {w w' : World} {a : Option Addr} (h : Marked w w' a) : w.heap.size ≤ w'.heap.size := World.grownBy.size h



/-- Two rows of which one is the other are told to be the same. -/
theorem eqBits_same (V : Int) (a b : Option Addr) (c d : Nat) (xs : List Nat) (w : World) (hr : Rd w a xs) (hs : Rd w b xs) :
    Calls Try.prog 38 #[.agg #[.int .i64 V, .slice a xs.length c], .agg #[.int .i64 V, .slice b xs.length d]] w fun e w' => e = .returned (.bool true) ∧ Below w.heap.size w w' := by
  have h := eqBits_any V V a b c d xs xs w hr hs
  simpa using h

theorem RetB.fr {w w' : World} {r : Int × List Nat × Bool} {e : Ending} (h : RetB w r e w') : ∃ a c, e = .returned (.tuple #[.agg #[.int .i64 r.1, .slice a r.2.1.length c], .bool r.2.2]) ∧ Fr w' w.heap.size w'.heap.size a r.2.1 ∧ Below w.heap.size w w' := by
  obtain ⟨a, c, he, hf, hb⟩ := h
  exact ⟨a, c, he, hf.fr, hb⟩

end Go.Proofs.Ythoiajpbpoglfaa

/- The reader of the draws: what next, below, once and word do to it. -/
namespace Go.Proofs.Ythoiajpbpoglfaa
set_option linter.unusedVariables false
set_option linter.unusedSimpArgs false
open Go.RowKit

/-- The block β is a reader of the bytes bs that stand at a. -/
def Rr (w : World) (β : Nat) (a : Option Addr) (c : Nat) (bs : List Nat) : Prop :=
  ∃ p : Nat, p ≤ bs.length ∧ Blk w β (.slice a bs.length c) (.int .i64 p) 107 ∧ RdB w a bs ∧ ∀ x, a = some x → bs ≠ [] → x.block ≠ β

theorem Blk.put1 {w : World} {β : Nat} {x y : Value} {t : TypeId} (h : Blk w β x y t) (u : Value) : Blk (w.setCell ⟨β, 1, none⟩ u) β x u t := by
  unfold Blk
  rw [heap_setCell_same w β 1 _ _ _ h]; rfl

theorem RdB.kept {w w' : World} {a : Option Addr} {bs : List Nat} {row : Option Nat} (h : RdB w a bs) (hg : w.grownBy w' row) (hn : ∀ x, a = some x → bs ≠ [] → row ≠ some x.block) : RdB w' a bs := by
  obtain ⟨h1, h2, h3⟩ := h
  refine ⟨h1, h2, ?_⟩
  rcases h3 with h3 | ⟨b, o, rfl, hc⟩
  · exact .inl h3
  · refine .inr ⟨b, o, rfl, fun i hi => ?_⟩
    have h4 := hc i hi
    rw [World.cell?_of_block (hg.block b (block_lt_of_cell h4) (fun e => hn _ rfl (fun h => by subst h; simp at hi) e.symm))]
    exact h4

theorem gsc (w : World) (a : Addr) (u : Value) : w.grownBy (w.setCell a u) (some a.block) :=
  ⟨rfl, rfl, rfl, by simp, fun k _ hk => heap_setCell_other w a k u (fun e => hk (by rw [e]))⟩

/-- What a draw does to the world: it turns the reader alone, and lays new blocks. -/
def Dw (β : Nat) (w w' : World) : Prop := w.grownBy w' (some β)

theorem Dw.refl (β : Nat) (w : World) : Dw β w w := World.grownBy.refl _ _
theorem Dw.trans {β : Nat} {a b c : World} (h : Dw β a b) (k : Dw β b c) : Dw β a c := World.grownBy.trans h k
theorem Dw.below {β : Nat} {w w' : World} (h : Dw β w w') {B : Nat} (hB : B ≤ β) (hs : B ≤ w.heap.size) : Below B w w' :=
  (Below.refl B w).grown h hs (fun k e => by cases e; exact hB)
theorem Dw.of {β : Nat} {w w' : World} (h : Below w.heap.size w w') : Dw β w w' := ⟨h.os, h.tape, h.output, h.size, fun k hk _ => h.block k hk⟩
theorem Dw.drew {β : Nat} {w w' : World} (h : Dw β w w') : Dw β w w'.drew := ⟨h.os, h.tape, h.output, h.size, h.block⟩
theorem Dw.alloc {β : Nat} {w w' : World} (h : Dw β w w') (o : Obj) : Dw β w (w'.alloc o) := h.trans (World.grownBy_alloc _ _ _)

theorem Rr.later {w w' : World} {β : Nat} {a : Option Addr} {c : Nat} {bs : List Nat} (h : Rr w β a c bs) (hb : Below w.heap.size w w') : Rr w' β a c bs := by
  obtain ⟨p, hp, hk, hr, hn⟩ := h
  exact ⟨p, hp, hk.next hb, hr.later hb, hn⟩

theorem Bd (w : World) (n : Nat) : Below w.heap.size w (w.drewN n) := below_drewN (Below.refl _ _) n
theorem Dw.drewN {β : Nat} {w w' : World} (h : Dw β w w') (n : Nat) : Dw β w (w'.drewN n) := h.trans (Dw.of (Bd _ _))

def Rp (w : World) (β : Nat) (a : Option Addr) (c : Nat) (bs : List Nat) (p : Nat) : Prop :=
  p ≤ bs.length ∧ Blk w β (.slice a bs.length c) (.int .i64 p) 107 ∧ RdB w a bs ∧ ∀ x, a = some x → bs ≠ [] → x.block ≠ β
theorem Rp.later {w w' : World} {β : Nat} {a : Option Addr} {c : Nat} {bs : List Nat} {p : Nat} (h : Rp w β a c bs p) (hb : Below w.heap.size w w') : Rp w' β a c bs p := by
  obtain ⟨hp, hk, hr, hn⟩ := h
  exact ⟨hp, hk.next hb, hr.later hb, hn⟩
theorem Rp.bump {w : World} {β : Nat} {a : Option Addr} {c : Nat} {bs : List Nat} {p : Nat} (h : Rp w β a c bs p) (hp : p < bs.length) : Rr (w.setCell ⟨β, 1, none⟩ (.int .i64 ((p : Int) + 1))) β a c bs := by
  obtain ⟨_, hk, hr, hn⟩ := h
  exact ⟨p + 1, by omega, by have := hk.put1 (.int .i64 ((p : Int) + 1)); simpa using this, hr.kept (gsc w ⟨β, 1, none⟩ _) (fun x e hb h => by cases h; exact hn _ e hb rfl), hn⟩

theorem next_any (β : Nat) (a : Option Addr) (c : Nat) (bs : List Nat) (w : World) (h : Rr w β a c bs) :
    Calls Try.prog 88 #[.pointer (some ⟨β, 0, none⟩)] w fun e w' => ∃ x : Nat, e = .returned (.int .i64 x) ∧ x < 256 ∧ Rr w' β a c bs ∧ Dw β w w' := by
  have h' := h
  obtain ⟨p, hp, hk, hr, hn⟩ := h
  have HP : Hid (Rp w β a c bs p) := ⟨hp, hk, hr, hn⟩
  obtain ⟨k0, k1⟩ := hk.cells
  have f1 : w.frozen? ⟨β, 1, none⟩ = false := frozen_of_row w β 1 _ _ hk
  have hl := hr.1
  by_cases hlt : p < bs.length
  · obtain ⟨-, hby, h | ⟨b, o, rfl, hc⟩⟩ := id hr
    · subst h; simp at hlt
    have hcell := hc p hlt
    have hbn : b ≠ β := hn _ rfl (fun h => by subst h; simp at hlt)
    have hb8 : bs.getD p 0 < 256 := by
      have e : bs.getD p 0 = bs[p] := by simp [List.getD, hlt]
      rw [e]; exact hby _ (List.getElem_mem _)
    generalize bs.getD p 0 = y at hcell hb8
    clear hc hby hn hr hk h'
    go_enter Try.func88, Try.ntmps88
    go_wp2
    go_quiet (fail)
    go_wp2
    go_quiet (fail)
    go_wp2
    go_ret
    exact ⟨y, rfl, hb8, ((HP.out.later (Bd _ _)).bump hlt).later (Bd _ _), ((Dw.of (Bd _ _)).trans (gsc _ ⟨β, 1, none⟩ _)).drewN _⟩
  · clear hr hk hn
    go_enter Try.func88, Try.ntmps88
    go_wp2
    go_quiet (fail)
    go_wp2
    go_ret
    exact ⟨0, rfl, by omega, h'.later (Bd _ _), Dw.of (Bd _ _)⟩

theorem below_any (n : Nat) (hn : n ≤ 4194304) (β : Nat) (a : Option Addr) (c : Nat) (bs : List Nat) (w : World) (h : Rr w β a c bs) :
    Calls Try.prog 69 #[.pointer (some ⟨β, 0, none⟩), .int .i64 n] w fun e w' => ∃ x : Nat, e = .returned (.int .i64 x) ∧ (x = 0 ∨ x < n) ∧ Rr w' β a c bs ∧ Dw β w w' := by
  by_cases h1 : n ≤ 1
  · have h1i : (n : Int) ≤ 1 := by omega
    go_enter Try.func69, Try.ntmps69
    go_wp2
    go_ret
    exact ⟨0, rfl, .inl rfl, h, Dw.refl _ _⟩
  · have h1i : ¬ (n : Int) ≤ 1 := by omega
    by_cases h2 : n ≤ 256
    · have h2i : (n : Int) ≤ 256 := by omega
      go_enter Try.func69, Try.ntmps69
      go_wp2_with fail
      refine (next_any β a c bs _ h).mono ?_
      rintro e w1 ⟨x, rfl, hx, hr1, hd1⟩
      have hm : x % n < n := Nat.mod_lt _ (by omega)
      have he : Int.tmod (x : Int) (n : Int) = ((x % n : Nat) : Int) := by rw [Int.tmod_eq_emod_of_nonneg (by omega)]; simp
      go_wp2
      go_ret
      exact ⟨x % n, by first | rfl | simp, .inr hm, hr1, hd1⟩
    · have h2i : ¬ (n : Int) ≤ 256 := by omega
      go_enter Try.func69, Try.ntmps69
      go_wp2_with fail
      refine (next_any β a c bs _ h).mono ?_
      rintro e w1 ⟨x, rfl, hx, hr1, hd1⟩
      go_wp2_with fail
      refine (next_any β a c bs _ hr1).mono ?_
      rintro e w2 ⟨y, rfl, hy, hr2, hd2⟩
      have hm : (x * 256 + y) % n < n := Nat.mod_lt _ (by omega)
      go_wp2
      go_ret
      exact ⟨(x * 256 + y) % n, by first | rfl | simp, .inr hm, hr2, hd1.trans hd2⟩

theorem once_any (n : Nat) (h0 : 1 ≤ n) (hn : n ≤ 4194304) (β : Nat) (a : Option Addr) (c : Nat) (bs : List Nat) (w : World) (h : Rr w β a c bs) :
    Calls Try.prog 54 #[.pointer (some ⟨β, 0, none⟩), .int .i64 n] w fun e w' => ∃ x : Bool, e = .returned (.bool x) ∧ Rr w' β a c bs ∧ Dw β w w' := by
  go_enter Try.func54, Try.ntmps54
  go_wp2_with fail
  refine (below_any n hn β a c bs _ h).mono ?_
  rintro e w1 ⟨x, rfl, hx, hr1, hd1⟩
  go_wp2
  go_ret
  exact ⟨_, rfl, hr1, hd1⟩

theorem orByte (x y : Nat) (hy : y < 256) : ∃ z : Nat, z < 18446744073709551616 ∧ bits BinOp.or IntKind.u64 (IntKind.u64.wrap ((x : Int) * 2 ^ 8)) (y : Int) = (z : Int) := by
  have e : IntKind.u64.wrap ((x : Int) * 2 ^ 8) = ((x * 2 ^ 8 % 18446744073709551616 : Nat) : Int) := by
    rw [IntKind.wrap_u64]; simp
  have hlt : x * 2 ^ 8 % 18446744073709551616 < 18446744073709551616 := Nat.mod_lt _ (by decide)
  refine ⟨x * 2 ^ 8 % 18446744073709551616 ||| y, Nat.or_lt_two_pow (n := 64) hlt (by omega), ?_⟩
  rw [e, bits_or_u64_nat _ _ hlt (by omega)]

theorem word_any (β : Nat) (a : Option Addr) (c : Nat) (bs : List Nat) (w : World) (h : Rr w β a c bs) :
    Calls Try.prog 89 #[.pointer (some ⟨β, 0, none⟩)] w fun e w' => ∃ x : Nat, e = .returned (.int .u64 x) ∧ x < 18446744073709551616 ∧ Rr w' β a c bs ∧ Dw β w w' := by
  go_enter Try.func89, Try.ntmps89
  go_wp2
  go_loopw [3, 4] (fun v i wr => ∃ k x : Nat, k ≤ 8 ∧ i = .int .i64 k ∧ v = .int .u64 x ∧ x < 18446744073709551616 ∧ Rr wr β a c bs ∧ Dw β w wr) (fun _ i _ => 8 - (intOf i).toNat)
  case atStart => exact ⟨0, 0, by omega, rfl, rfl, by omega, h, Dw.refl _ _⟩
  case round =>
    obtain ⟨k, x, hk, rfl, rfl, hx, hr, hd⟩ := hrel
    by_cases hlt : k < 8
    · go_wp2_with fail
      refine (next_any β a c bs _ hr).mono ?_
      rintro e w1 ⟨y, rfl, hy, hr1, hd1⟩
      obtain ⟨z, hz, HZ⟩ := orByte x y hy
      go_wp2
      go_roundw
      case rel => exact ⟨k + 1, z, by omega, by go_num, by rw [show (256 : Int) = 2 ^ 8 from rfl, HZ], hz, hr1, hd.trans hd1⟩
      case measure => simp [intOf]; omega
    · go_wp2
      go_ret
      exact ⟨x, rfl, hx, hr, hd⟩

end Go.Proofs.Ythoiajpbpoglfaa

/- What putBits does: the words of a row are put into another one from a place on. -/
namespace Go.Proofs.Ythoiajpbpoglfaa
set_option linter.unusedVariables false
set_option linter.unusedSimpArgs false
open Go.RowKit

def putTo (zs ys : List Nat) (f s : Nat) : Nat → List Nat
  | 0 => zs
  | k + 1 =>
    let z1 := (putTo zs ys f s k).set (f + k) ((putTo zs ys f s k).getD (f + k) 0 ||| ys.getD k 0 * 2 ^ s % 18446744073709551616)
    z1.set (f + k + 1) (z1.getD (f + k + 1) 0 ||| ys.getD k 0 / 2 ^ (64 - s))

theorem putTo_len (zs ys : List Nat) (f s k : Nat) : (putTo zs ys f s k).length = zs.length := by
  induction k with
  | zero => rfl
  | succ k ih => simp [putTo, ih]

theorem set_lt {xs : List Nat} (h : ∀ x ∈ xs, x < 18446744073709551616) (i v : Nat) (hv : v < 18446744073709551616) : ∀ x ∈ xs.set i v, x < 18446744073709551616 := by
  intro x hx
  rcases List.mem_or_eq_of_mem_set hx with h' | h'
  · exact h x h'
  · rw [h']; exact hv

theorem putTo_lt (zs ys : List Nat) (f s k : Nat) (hz : ∀ x ∈ zs, x < 18446744073709551616) (hy : ∀ x ∈ ys, x < 18446744073709551616) : ∀ x ∈ putTo zs ys f s k, x < 18446744073709551616 := by
  induction k with
  | zero => exact hz
  | succ k ih =>
    have h1 := set_lt ih (f + k) _ (Nat.or_lt_two_pow (n := 64) (getD_lt ih (f + k)) (Nat.mod_lt (ys.getD k 0 * 2 ^ s) (by decide)))
    exact set_lt h1 _ _ (Nat.or_lt_two_pow (n := 64) (getD_lt h1 _) (Nat.lt_of_le_of_lt (Nat.div_le_self _ _) (getD_lt hy k)))

theorem tb_put (zs ys : List Nat) (f s k : Nat) (hs : s < 64) (hy : ∀ x ∈ ys, x < 18446744073709551616) (hk : ∀ i, i < k → f + i < zs.length ∧ (f + i + 1 < zs.length ∨ ys.getD i 0 / 2 ^ (64 - s) = 0)) (j : Nat) :
    tb (putTo zs ys f s k) j = (tb zs j || (decide (64 * f + s ≤ j) && decide (j < 64 * f + s + 64 * k) && tb ys (j - (64 * f + s)))) := by
  induction k with
  | zero =>
    by_cases h : 64 * f + s ≤ j
    · simp [putTo, show ¬ j < 64 * f + s by omega]
    · simp [putTo, h]
  | succ k ih =>
    have ih' := ih fun i hi => hk i (by omega)
    obtain ⟨h1, h2⟩ := hk k (by omega)
    have hlen := putTo_len zs ys f s k
    have hyk := getD_lt hy k
    have key : tb (putTo zs ys f s (k + 1)) j = (tb (putTo zs ys f s k) j || (decide (j / 64 = f + k) && (ys.getD k 0 * 2 ^ s % 18446744073709551616).testBit (j % 64)) || (decide (j / 64 = f + k + 1) && (ys.getD k 0 / 2 ^ (64 - s)).testBit (j % 64))) := by
      simp only [putTo]
      have e1 : tb ((putTo zs ys f s k).set (f + k) ((putTo zs ys f s k).getD (f + k) 0 ||| ys.getD k 0 * 2 ^ s % 18446744073709551616)) j = (tb (putTo zs ys f s k) j || (decide (j / 64 = f + k) && (ys.getD k 0 * 2 ^ s % 18446744073709551616).testBit (j % 64))) := by
        rw [tb_set _ _ _ _ (by omega)]
        by_cases h : j / 64 = f + k
        · rw [if_pos h, Nat.testBit_or]; unfold tb; rw [h]; simp
        · rw [if_neg h]; simp [h]
      rcases h2 with h2 | h2
      · rw [tb_set _ _ _ _ (by simp; omega)]
        by_cases h : j / 64 = f + k + 1
        · rw [if_pos h, Nat.testBit_or, ← e1]
          have : ((List.set (putTo zs ys f s k) (f + k) ((putTo zs ys f s k).getD (f + k) 0 ||| ys.getD k 0 * 2 ^ s % 18446744073709551616)).getD (f + k + 1) 0).testBit (j % 64) = tb ((putTo zs ys f s k).set (f + k) ((putTo zs ys f s k).getD (f + k) 0 ||| ys.getD k 0 * 2 ^ s % 18446744073709551616)) j := by unfold tb; rw [h]
          rw [this]; simp [h]
        · rw [if_neg h, e1]; simp [h]
      · rw [h2, Nat.or_zero]
        have e2 : ∀ (l : List Nat) (i : Nat), l.set i (l.getD i 0) = l := by
          intro l i
          by_cases hi : i < l.length
          · have : l.getD i 0 = l[i] := by simp [List.getD, hi]
            rw [this, List.set_getElem_self]
          · exact List.set_eq_of_length_le (by omega)
        rw [e2, e1]; simp
    rw [key, ih']
    have hsp : (18446744073709551616 : Nat) = 2 ^ 64 := by decide
    rw [hsp, Nat.testBit_mod_two_pow, Nat.testBit_mul_two_pow, Nat.testBit_div_two_pow]
    have hlt : j % 64 < 64 := by omega
    by_cases ha : 64 * f + s ≤ j ∧ j < 64 * f + s + 64 * k
    · -- an earlier word's place: this one's bits do not reach there
      have n1 : ¬ (j / 64 = f + k ∧ s ≤ j % 64) := by omega
      have n2 : ¬ (j / 64 = f + k + 1) := by omega
      have c1 : decide (j < 64 * f + s + 64 * (k + 1)) = true := by simp; omega
      have c2 : decide (64 * f + s ≤ j) = true := by simp; omega
      have c3 : decide (j < 64 * f + s + 64 * k) = true := by simp; omega
      rw [c1, c2, c3]
      by_cases h5 : j / 64 = f + k
      · have : decide (s ≤ j % 64) = false := by simp; omega
        simp [h5, this]
      · simp [h5, n2]
    · by_cases hb : 64 * f + s + 64 * k ≤ j ∧ j < 64 * f + s + 64 * (k + 1)
      · have c1 : decide (j < 64 * f + s + 64 * (k + 1)) = true := by simp; omega
        have c2 : decide (64 * f + s ≤ j) = true := by simp; omega
        have c3 : decide (j < 64 * f + s + 64 * k) = false := by simp; omega
        rw [c1, c2, c3]
        have e3 : (j - (64 * f + s)) / 64 = k := by omega
        by_cases h5 : j / 64 = f + k
        · have e4 : (j - (64 * f + s)) % 64 = j % 64 - s := by omega
          unfold tb
          rw [e3, e4]
          simp [h5, hlt, show s ≤ j % 64 by omega]
        · have h6 : j / 64 = f + k + 1 := by omega
          have e4 : (j - (64 * f + s)) % 64 = j % 64 + (64 - s) := by omega
          unfold tb
          rw [e3, e4]
          simp [h6]
      · have c1 : (decide (64 * f + s ≤ j) && decide (j < 64 * f + s + 64 * (k + 1))) = false := by simp; omega
        have c2 : (decide (64 * f + s ≤ j) && decide (j < 64 * f + s + 64 * k)) = false := by simp; omega
        rw [c1, c2]
        simp only [Bool.false_and, Bool.or_false]
        by_cases h5 : j / 64 = f + k
        · have : decide (s ≤ j % 64) = false := by simp; omega
          simp [h5, this]
        · by_cases h6 : j / 64 = f + k + 1
          · have : (ys.getD k 0).testBit (j % 64 + (64 - s)) = false := by
              refine Nat.testBit_lt_two_pow (Nat.lt_of_lt_of_le hyk ?_)
              exact (show 2 ^ 64 ≤ 2 ^ (j % 64 + (64 - s)) from Nat.pow_le_pow_right (by omega) (by omega))
            rw [this]
            simp [h5]
          · simp [h5, h6]


end Go.Proofs.Ythoiajpbpoglfaa

/- What the given functions on words answer: RepeatBits, WidenBits. -/
namespace Go.Proofs.Ythoiajpbpoglfaa
set_option linter.unusedVariables false
set_option linter.unusedSimpArgs false
open Go.RowKit

/-- 'append(out, list...)', out the call's own, list not empty. -/
theorem wpList_appBs (w : World) {ops : Array Oper} {rest : List Oper} {o : Oper} {a : Act} {Q : Exit → Act → World → Prop} (hgd : o.guard = none) (s x : Operand)
    (ho : o.op = .call { callee := .builtin .append, args := #[s, x], argTypes := #[39, 39] })
    (base : Nat) (v : Value) (bs ys : List Nat) (hs : a.eval s = v) (hown : OwB w base v bs) (b ob c : Nat) (hx : a.eval x = .slice (some ⟨b, ob, none⟩) ys.length c)
    (hc : ∀ i, i < ys.length → w.cell? ⟨b, ob + i, none⟩ = some (.int .u8 ((ys.getD i 0 : Nat) : Int))) (hl : bs.length + ys.length ≤ 4194304) (hbase : base ≤ w.heap.size)
    (h : ∀ v' w', OwB w' base v' (bs ++ ys) → w.grownBy w' v.ownBlock → wpList Try.prog ops Q rest (a.put o.dst v') w') : wpList Try.prog ops Q (o :: rest) a w := by
  obtain ⟨i0, hi, hz0, hz1, hz2⟩ := info_parts Try.infoU8
  refine wpList_append_own w hgd s x 39 ho base 5 i0 (.int .u8 0) 1 1 Try.underlying39 hi hz0 hz1 hz2 rfl (by decide) v bs.length (u8s bs) hs hown ⟨b, ob, none⟩ ys.length c (u8s ys) hx (by simp [u8s]) ?_ ?_ ?_ ?_ hbase ?_
  · intro j u hj
    have hj' : j < ys.length := by
      have := (List.getElem?_eq_some_iff.1 hj).1
      simpa [u8s] using this
    rw [Addr.add_lit, hc j hj']
    simp [u8s, hj'] at hj
    rw [← hj]
    simp [List.getD, hj']
  · intro u hu
    obtain ⟨_, _, rfl⟩ := List.mem_map.1 hu
    rfl
  · unfold maxLen; omega
  · omega
  · intro v' w' h1 h2 _
    refine h v' w' ?_ h2
    unfold OwB
    simpa [u8s] using h1

def repList (bs : List Nat) (k : Nat) : List Nat := (List.replicate k bs).flatten
theorem repList_succ (bs : List Nat) (k : Nat) : repList bs (k + 1) = repList bs k ++ bs := by
  unfold repList
  rw [List.replicate_succ', List.flatten_append]; simp
theorem repList_len (bs : List Nat) (k : Nat) : (repList bs k).length = k * bs.length := by
  induction k with
  | zero => simp [repList]
  | succ k ih => rw [repList_succ, List.length_append, ih, Nat.succ_mul]
theorem repList_mem (bs : List Nat) (k x : Nat) (h : x ∈ repList bs k) : x ∈ bs := by
  unfold repList at h
  simp at h
  obtain ⟨l, ⟨_, rfl⟩, hx⟩ := h
  exact hx

def repR (W : Int) (xs : List Nat) (n : Int) : Int × List Nat × Bool :=
  if rightB W xs = true ∧ 1 ≤ n ∧ n ≤ 4096 ∧ W * n ≤ 4096 then (W * n, pack (repList (bitsTo xs W.toNat) n.toNat), true) else noR


end Go.Proofs.Ythoiajpbpoglfaa

/- What the program's RepeatBits answers: what the given one does. -/
namespace Go.Proofs.Ythoiajpbpoglfaa
set_option linter.unusedVariables false
set_option linter.unusedSimpArgs false
open Go.RowKit

theorem Blk.free {w : World} {β : Nat} {x y : Value} {t : TypeId} (h : Blk w β x y t) (i : Nat) : w.frozen? ⟨β, i, none⟩ = false := frozen_of_row w β i _ _ h
theorem Blk.new1 (w : World) (o : Obj) (x y : Value) (t : TypeId) : Blk ((w.alloc o).alloc (.cells #[x, y] t)) (w.heap.size + 1) x y t := heap_alloc2_new _ _ _
theorem Blk.new2 (w : World) (o p : Obj) (x y : Value) (t : TypeId) : Blk (((w.alloc o).alloc p).alloc (.cells #[x, y] t)) (w.heap.size + 1 + 1) x y t := by
  have := heap_alloc2_new (w.alloc o) p (.cells #[x, y] t)
  rw [World.size_alloc] at this
  exact this

/-- A right row fits where there are as many bits from the place on as it is wide. -/
theorem put_fit {V : Nat} {xs : List Nat} (hok : rightB V xs = true) (hx : ∀ x ∈ xs, x < 18446744073709551616) (P N : Nat) (h : P + V ≤ 64 * N) :
    ∀ i, i < xs.length → P / 64 + i < N ∧ (P / 64 + i + 1 < N ∨ xs.getD i 0 / 2 ^ (64 - P % 64) = 0) := by
  intro i hi
  obtain ⟨h1, h2, h3⟩ := right_W hok
  refine ⟨by omega, ?_⟩
  by_cases hN : P / 64 + i + 1 < N
  · exact .inl hN
  · right
    refine Nat.eq_of_testBit_eq fun j => ?_
    rw [Nat.testBit_div_two_pow, Nat.zero_testBit]
    by_cases hj : j + (64 - P % 64) < 64
    · have := tb_out hok (64 * i + (j + (64 - P % 64))) (by omega)
      unfold tb at this
      rw [show (64 * i + (j + (64 - P % 64))) / 64 = i by omega, show (64 * i + (j + (64 - P % 64))) % 64 = j + (64 - P % 64) by omega] at this
      exact this
    · exact Nat.testBit_lt_two_pow (Nat.lt_of_lt_of_le (getD_lt hx i) (show 2 ^ 64 ≤ 2 ^ (j + (64 - P % 64)) from Nat.pow_le_pow_right (by omega) (by omega)))

theorem tb_put_right {V : Nat} {xs : List Nat} (hok : rightB V xs = true) (hx : ∀ x ∈ xs, x < 18446744073709551616) (zs : List Nat) (P : Nat) (h : P + V ≤ 64 * zs.length) (j : Nat) :
    tb (putTo zs xs (P / 64) (P % 64) xs.length) j = (tb zs j || (decide (P ≤ j) && tb xs (j - P))) := by
  rw [tb_put zs xs _ _ _ (by omega) hx (put_fit hok hx P zs.length h), show 64 * (P / 64) + P % 64 = P by omega]
  by_cases h1 : P ≤ j
  · by_cases h2 : j < P + 64 * xs.length
    · simp [h1, h2]
    · have := right_W hok
      rw [tb_out hok (j - P) (by omega)]; simp
  · simp [h1]

def repTo (V : Nat) (xs : List Nat) (N : Nat) : Nat → List Nat
  | 0 => List.replicate N 0
  | k + 1 => putTo (repTo V xs N k) xs (k * V / 64) (k * V % 64) xs.length

theorem repTo_len (V : Nat) (xs : List Nat) (N k : Nat) : (repTo V xs N k).length = N := by
  induction k with
  | zero => simp [repTo]
  | succ k ih => rw [repTo, putTo_len, ih]
theorem repTo_lt (V : Nat) (xs : List Nat) (N k : Nat) (hx : ∀ x ∈ xs, x < 18446744073709551616) : ∀ x ∈ repTo V xs N k, x < 18446744073709551616 := by
  induction k with
  | zero => intro x h; simp [repTo] at h; omega
  | succ k ih => exact putTo_lt _ _ _ _ _ ih hx

theorem tb_zero (N j : Nat) : tb (List.replicate N 0) j = false := by
  unfold tb
  simp only [List.getD, List.getElem?_replicate]
  split <;> simp

theorem tb_rep {V : Nat} {xs : List Nat} (hok : rightB V xs = true) (hx : ∀ x ∈ xs, x < 18446744073709551616) (N m : Nat) (hN : m * V ≤ 64 * N) (k : Nat) (hk : k ≤ m) (j : Nat) :
    tb (repTo V xs N k) j = (decide (j < k * V) && tb xs (j % V)) := by
  have hV := right_W hok
  induction k with
  | zero => simp [repTo, tb_zero]
  | succ k ih =>
    have hk1 : k * V + V ≤ m * V := by
      have : (k + 1) * V ≤ m * V := Nat.mul_le_mul_right _ hk
      rwa [Nat.succ_mul] at this
    rw [repTo, tb_put_right hok hx _ _ (by rw [repTo_len]; omega), ih (by omega), Nat.succ_mul]
    by_cases h1 : j < k * V
    · simp [h1, show ¬ k * V ≤ j by omega, show j < k * V + V by omega]
    · by_cases h2 : j < k * V + V
      · have e : j % V = j - k * V := by
          have h3 : j = (j - k * V) + V * k := by rw [Nat.mul_comm V k]; omega
          rw [h3, Nat.add_mul_mod_self_left, Nat.mod_eq_of_lt (by omega)]
          rw [Nat.mul_comm V k]; omega
        simp [h1, h2, show k * V ≤ j by omega, e]
      · rw [tb_out hok (j - k * V) (by omega)]
        simp [h1, h2]

theorem repList_get (bs : List Nat) (V : Nat) (hV : bs.length = V) (hp : 0 < V) (k j : Nat) (hj : j < k * V) : (repList bs k).getD j 0 = bs.getD (j % V) 0 := by
  induction k with
  | zero => simp at hj
  | succ k ih =>
    rw [repList_succ]
    have hl := repList_len bs k
    rw [hV] at hl
    simp only [List.getD]
    by_cases h : j < k * V
    · rw [List.getElem?_append_left (by omega)]
      have := ih h
      simpa only [List.getD] using this
    · rw [List.getElem?_append_right (by omega), hl]
      have e : j % V = j - k * V := by
        rw [Nat.succ_mul] at hj
        have h3 : j = (j - k * V) + V * k := by rw [Nat.mul_comm V k]; omega
        rw [h3, Nat.add_mul_mod_self_left, Nat.mod_eq_of_lt (by omega)]
        rw [Nat.mul_comm V k]; omega
      rw [e]

theorem rep_pack {V : Nat} {xs : List Nat} (hok : rightB V xs = true) (hx : ∀ x ∈ xs, x < 18446744073709551616) (m N : Nat) (hN : N = (m * V + 63) / 64) :
    repTo V xs N m = pack (repList (bitsTo xs V) m) := by
  have hV := right_W hok
  have hl := repList_len (bitsTo xs V) m
  rw [bitsTo_len] at hl
  refine eq_pack (fun x h => bitsTo_le xs V x (repList_mem _ _ _ h)) (by rw [repTo_len, hl, hN]) (repTo_lt _ _ _ _ hx) fun i hi => ?_
  rw [tb_rep hok hx N m (by omega) m (Nat.le_refl _)]
  by_cases h : i < m * V
  · rw [repList_get _ V (bitsTo_len _ _) (by omega) m i h]
    have h2 : i % V < V := Nat.mod_lt _ (by omega)
    simp [h, List.getD, bitsTo, h2]
  · have e : (repList (bitsTo xs V) m).getD i 0 = 0 := by
      simp only [List.getD]
      rw [List.getElem?_eq_none (by omega)]; rfl
    rw [e]; simp [h]

theorem Rd.lt {w : World} {a : Option Addr} {xs : List Nat} (h : Rd w a xs) (hp : 0 < xs.length) : ∀ x, a = some x → x.block < w.heap.size := by
  obtain ⟨_, _, h | ⟨b, o, rfl, hc⟩⟩ := h
  · subst h; simp at hp
  · intro x hx
    simp at hx
    subst hx
    exact block_lt_of_cell (hc 0 hp)

/-- How a function ends that gives back a row that it has filled. -/
theorem RetB.made {w w4 : World} {r : Int × List Nat × Bool} {R : Int × List Nat × Bool} {g c β : Nat} (ho : Own w4 g r.2.1) (hg : w.heap.size ≤ g) (hβ : w.heap.size ≤ β) (hne : g ≠ β) (hb : Below w.heap.size w w4) (he : r = R) (u v : Value) :
    RetB w R (.returned (.tuple #[.agg #[.int .i64 r.1, .slice (some ⟨g, 0, none⟩) r.2.1.length c], .bool r.2.2])) ((w4.setCell ⟨β, 0, none⟩ u).setCell ⟨β, 1, none⟩ v) := by
  subst he
  exact ⟨some ⟨g, 0, none⟩, c, rfl, .inr ⟨g, rfl, hg, (ho.other (by simpa using hne) _).other (by simpa using hne) _⟩, (hb.setCell hβ _).setCell hβ _⟩


end Go.Proofs.Ythoiajpbpoglfaa

/- What the given JoinBits answers. -/
namespace Go.Proofs.Ythoiajpbpoglfaa
set_option linter.unusedVariables false
set_option linter.unusedSimpArgs false
open Go.RowKit

theorem l1From_any (a : Option Addr) (c : Nat) (bs : List Nat) (w : World) (hr : RdB w a bs) :
    Calls Try.prog 56 #[.slice a bs.length c] w (RetB w (fromR bs)) := by
  by_cases h : 1 ≤ bs.length ∧ bs.length ≤ 4096
  · rw [fromR, if_pos h]; exact l1From_yes a c bs w hr h.1 h.2
  · rw [fromR, if_neg h]
    refine (l1From_no a bs.length c w (by omega) hr.1).mono ?_
    rintro e w' ⟨rfl, hb⟩
    exact RetB.no hb

/-- The bits of two rows, the lower one's first. -/
def joinL (W : Int) (xs : List Nat) (V : Int) (ys : List Nat) : List Nat := bitsTo ys V.toNat ++ bitsTo xs W.toNat

def joinR (W : Int) (xs : List Nat) (V : Int) (ys : List Nat) : Int × List Nat × Bool :=
  if rightB W xs = true ∧ rightB V ys = true then fromR (joinL W xs V ys) else noR

/-- 'append(out, list...)' at a step of a region that draws its order. -/
theorem step_appBs (w : World) {ops : Array Oper} {o : Oper} {a : Act} {K : Act → World → Prop} {Q : Exit → Act → World → Prop} {E : Prop} (hgd : o.guard = none) (s x : Operand)
    (ho : o.op = .call { callee := .builtin .append, args := #[s, x], argTypes := #[39, 39] })
    (base : Nat) (v : Value) (bs ys : List Nat) (hs : a.eval s = v) (hown : OwB w base v bs) (b ob c : Nat) (hx : a.eval x = .slice (some ⟨b, ob, none⟩) ys.length c)
    (hc : ∀ i, i < ys.length → w.cell? ⟨b, ob + i, none⟩ = some (.int .u8 ((ys.getD i 0 : Nat) : Int))) (hl : bs.length + ys.length ≤ 4194304) (hbase : base ≤ w.heap.size)
    (h : ∀ v' w', OwB w' base v' (bs ++ ys) → w.grownBy w' v.ownBlock → K (a.put o.dst v') w') :
    if Region.wanted o (yielded ops a.tmps) = true then Oper.wp Try.prog o a w K Q else E := by
  have hw : Region.wanted o (yielded ops a.tmps) = true := by simp [Region.wanted, hgd]
  rw [if_pos hw]
  obtain ⟨i0, hi, hz0, hz1, hz2⟩ := info_parts Try.infoU8
  refine wp_append_own w s x 39 ho base 5 i0 (.int .u8 0) 1 1 Try.underlying39 hi hz0 hz1 hz2 rfl (by decide) v bs.length (u8s bs) hs hown ⟨b, ob, none⟩ ys.length c (u8s ys) hx (by simp [u8s]) ?_ ?_ ?_ ?_ hbase ?_
  · intro j u hj
    have hj' : j < ys.length := by
      have := (List.getElem?_eq_some_iff.1 hj).1
      simpa [u8s] using this
    rw [Addr.add_lit, hc j hj']
    simp [u8s, hj'] at hj
    rw [← hj]
    simp [List.getD, hj']
  · intro u hu
    obtain ⟨_, _, rfl⟩ := List.mem_map.1 hu
    rfl
  · unfold maxLen; omega
  · omega
  · intro v' w' h1 h2 _
    refine h v' w' ?_ h2
    unfold OwB
    simpa [u8s] using h1

theorem undrewG {w w' : World} (h : Below w.drew.heap.size w.drew w') : Below w.heap.size w w' := ⟨h.os, h.tape, h.output, h.size, h.block⟩
theorem OwB.undrew {w w' : World} {v : Value} {bs : List Nat} (h : OwB w' (w.drew.heap.size + 1) v bs) : OwB w' (w.heap.size + 1) v bs := h


end Go.Proofs.Ythoiajpbpoglfaa

/- The reader of the draws: near, off, wide. -/
namespace Go.Proofs.Ythoiajpbpoglfaa
set_option linter.unusedVariables false
set_option linter.unusedSimpArgs false
open Go.RowKit

theorem Dw.row {β : Nat} {w1 w2 : World} {o : Obj} (h : Dw β (w1.alloc o) w2) (hβ : β < w1.heap.size) : w2.heap[w1.heap.size]? = some o := by
  rw [World.grownBy.block h w1.heap.size (by simp) (by simp; omega), heap_alloc_new]

theorem wrap64_of {x : Int} (h1 : -9223372036854775808 ≤ x) (h2 : x ≤ 9223372036854775807) : wrap64 x = x := by
  unfold wrap64; omega

theorem near_any (l h : Nat) (hlh : l ≤ h) (hh : h ≤ 4194304) (β : Nat) (a : Option Addr) (c : Nat) (bs : List Nat) (w : World) (hr : Rr w β a c bs) :
    Calls Try.prog 72 #[.pointer (some ⟨β, 0, none⟩), .int .i64 l, .int .i64 h] w fun e w' => ∃ x : Nat, e = .returned (.int .i64 x) ∧ l ≤ x ∧ x ≤ h ∧ Rr w' β a c bs ∧ Dw β w w' := by
  go_enter Try.func72, Try.ntmps72
  go_wp2_with fail
  refine (below_any 8 (by omega) β a c bs _ hr).mono ?_
  rintro e w1 ⟨x, rfl, hx, hr1, hd1⟩
  rcases Nat.lt_or_ge 1 x with h1 | h1
  · have n0 : ¬ x = 0 := by omega
    have n1 : ¬ x = 1 := by omega
    have n0i : ¬ (x : Int) = 0 := by omega
    have n1i : ¬ (x : Int) = 1 := by omega
    have n2i : ¬ (h : Int) < (l : Int) := by omega
    go_wp2_with fail
    refine (word_any β a c bs _ hr1).mono ?_
    rintro e w2 ⟨y, rfl, hy, hr2, hd2⟩
    have hm : y / 2 % (h - l + 1) < h - l + 1 := Nat.mod_lt _ (by omega)
    have e1 : ((y : Int) / 2 % ((h : Int) - (l : Int) + 1)) = ((y / 2 % (h - l + 1) : Nat) : Int) := by
      rw [Int.natCast_emod, Int.natCast_ediv]; congr 1; omega
    generalize hz : y / 2 % (h - l + 1) = z at *
    have E1 : Hid ((y : Int) / 2 % ((h : Int) - (l : Int) + 1) = (z : Int)) := e1
    clear e1 hz
    go_wp2
    go_ret
    refine ⟨l + z, ?_, by omega, by omega, hr2, hd1.trans hd2⟩
    rw [E1.out, wrap64_of (show -9223372036854775808 ≤ (z : Int) by omega) (by omega), wrap64_of (by omega) (by omega)]
    simp
  · obtain rfl | rfl : x = 0 ∨ x = 1 := by omega
    · go_wp2
      go_ret
      exact ⟨l, rfl, Nat.le_refl _, hlh, hr1, hd1⟩
    · go_wp2
      go_ret
      exact ⟨h, rfl, hlh, Nat.le_refl _, hr1, hd1⟩

theorem off_any (l h : Nat) (hlh : l ≤ h) (hh : h ≤ 4194304) (β : Nat) (a : Option Addr) (c : Nat) (bs : List Nat) (w : World) (hr : Rr w β a c bs) :
    Calls Try.prog 47 #[.pointer (some ⟨β, 0, none⟩), .int .i64 l, .int .i64 h] w fun e w' => ∃ x : Int, e = .returned (.int .i64 x) ∧ -9223372036854775808 ≤ x ∧ x ≤ 9223372036854775807 ∧ Rr w' β a c bs ∧ Dw β w w' := by
  go_enter Try.func47, Try.ntmps47
  go_wp2_with fail
  refine (once_any 24 (by omega) (by omega) β a c bs _ hr).mono ?_
  rintro e w1 ⟨x, rfl, hr1, hd1⟩
  cases x with
  | true =>
    have hβ : β < w1.heap.size := by obtain ⟨p, _, hk, _⟩ := hr1; exact hk.lt
    go_wp2_with fail
    refine (below_any 4 (by omega) β a c bs _ (hr1.later ((Below.refl _ _).alloc (Nat.le_refl _) _))).mono ?_
    rintro e w2 ⟨y, rfl, hy, hr2, hd2⟩
    have hrow := hd2.row hβ
    have hy4 : y < 4 := by omega
    obtain ⟨z, hz1, hz2, hcell⟩ : ∃ z : Int, -9223372036854775808 ≤ z ∧ z ≤ 9223372036854775807 ∧ w2.cell? ⟨w1.heap.size, y, none⟩ = some (.int .i64 z) := by
      rw [cell_of_row w2 _ y _ _ _ hrow]
      match y, hy4 with
      | 0, _ => exact ⟨(l : Int) - 1, by omega, by omega, rfl⟩
      | 1, _ => exact ⟨(h : Int) + 1, by omega, by omega, rfl⟩
      | 2, _ => exact ⟨-9223372036854775808, by omega, by omega, rfl⟩
      | 3, _ => exact ⟨9223372036854775807, by omega, by omega, rfl⟩
    have hd := hd1.trans ((Dw.of ((Below.refl _ _).alloc (Nat.le_refl _) _)).trans hd2)
    clear hrow hd2
    go_wp2
    go_ret
    exact ⟨z, rfl, hz1, hz2, hr2, hd⟩
  | false =>
    go_wp2_with fail
    refine (near_any l h hlh hh β a c bs _ hr1).mono ?_
    rintro e w2 ⟨y, rfl, hy1, hy2, hr2, hd2⟩
    go_wp2
    go_ret
    exact ⟨y, rfl, by omega, by omega, hr2, hd1.trans hd2⟩

theorem wide_any (β : Nat) (a : Option Addr) (c : Nat) (bs : List Nat) (w : World) (hr : Rr w β a c bs) :
    Calls Try.prog 70 #[.pointer (some ⟨β, 0, none⟩)] w fun e w' => ∃ x : Nat, e = .returned (.int .i64 x) ∧ 1 ≤ x ∧ x ≤ 200 ∧ Rr w' β a c bs ∧ Dw β w w' := by
  go_enter Try.func70, Try.ntmps70
  go_wp2_with fail
  refine (below_any 10 (by omega) β a c bs _ hr).mono ?_
  rintro e w1 ⟨x, rfl, hx, hr1, hd1⟩
  rcases Nat.lt_or_ge 1 x with h1 | h1
  · have n0 : ¬ x = 0 := by omega
    have n1 : ¬ x = 1 := by omega
    have n0i : ¬ (x : Int) = 0 := by omega
    have n1i : ¬ (x : Int) = 1 := by omega
    go_wp2_with fail
    refine (below_any 12 (by omega) β a c bs _ hr1).mono ?_
    rintro e w2 ⟨y, rfl, hy, hr2, hd2⟩
    go_wp2
    go_ret
    exact ⟨1 + y, by simp, by omega, by omega, hr2, hd1.trans hd2⟩
  · obtain rfl | rfl : x = 0 ∨ x = 1 := by omega
    · have hβ : β < w1.heap.size := by obtain ⟨p, _, hk, _⟩ := hr1; exact hk.lt
      go_wp2_with fail
      refine (below_any 7 (by omega) β a c bs _ (hr1.later ((Below.refl _ _).alloc (Nat.le_refl _) _))).mono ?_
      rintro e w2 ⟨y, rfl, hy, hr2, hd2⟩
      have hrow := hd2.row hβ
      have hy7 : y < 7 := by omega
      obtain ⟨z, hz1, hz2, hcell⟩ : ∃ z : Nat, 1 ≤ z ∧ z ≤ 200 ∧ w2.cell? ⟨w1.heap.size, y, none⟩ = some (.int .i64 z) := by
        rw [cell_of_row w2 _ y _ _ _ hrow]
        match y, hy7 with
        | 0, _ => exact ⟨63, by omega, by omega, rfl⟩
        | 1, _ => exact ⟨64, by omega, by omega, rfl⟩
        | 2, _ => exact ⟨65, by omega, by omega, rfl⟩
        | 3, _ => exact ⟨127, by omega, by omega, rfl⟩
        | 4, _ => exact ⟨128, by omega, by omega, rfl⟩
        | 5, _ => exact ⟨129, by omega, by omega, rfl⟩
        | 6, _ => exact ⟨200, by omega, by omega, rfl⟩
      have hd := hd1.trans ((Dw.of ((Below.refl _ _).alloc (Nat.le_refl _) _)).trans hd2)
      clear hrow hd2
      go_wp2
      go_ret
      exact ⟨z, rfl, hz1, hz2, hr2, hd⟩
    · go_wp2_with fail
      refine (below_any 40 (by omega) β a c bs _ hr1).mono ?_
      rintro e w2 ⟨y, rfl, hy, hr2, hd2⟩
      go_wp2
      go_ret
      exact ⟨1 + y, by simp, by omega, by omega, hr2, hd1.trans hd2⟩

end Go.Proofs.Ythoiajpbpoglfaa

/- A row of bytes of one's own: written, read; small lemmas. -/
namespace Go.Proofs.Ythoiajpbpoglfaa
set_option linter.unusedVariables false
set_option linter.unusedSimpArgs false
open Go.RowKit

theorem OwB.put {w : World} {base g cap : Nat} {bs : List Nat} (h : OwB w base (.slice (some ⟨g, 0, none⟩) bs.length cap) bs) (j y : Nat) : OwB (w.setCell ⟨g, j, none⟩ (.int .u8 (y : Int))) base (.slice (some ⟨g, 0, none⟩) bs.length cap) (bs.set j y) := by
  have := (World.ownsRow.stored h j (.int .u8 (y : Int))).1
  unfold OwB
  rw [List.length_set]
  have e : (u8s bs).set j (.int .u8 (y : Int)) = u8s (bs.set j y) := by simp [u8s, List.map_set]
  rw [e] at this
  exact this

theorem OwB.block {w : World} {base : Nat} {v : Value} {bs : List Nat} (h : OwB w base v bs) (hp : 0 < bs.length) : ∃ g cap, v = .slice (some ⟨g, 0, none⟩) bs.length cap ∧ base ≤ g ∧ g < w.heap.size ∧ bs.length ≤ cap := by
  obtain ⟨h1, ⟨rfl, h2⟩ | ⟨g, cap, cur, rfl, hg, hh, hc1, hc2, hsz, hcur⟩⟩ := h
  · omega
  · exact ⟨g, cap, rfl, hg, lt_of_block hh, hc1⟩

theorem OwB.cellAt {w : World} {base g cap : Nat} {bs : List Nat} (h : OwB w base (.slice (some ⟨g, 0, none⟩) bs.length cap) bs) (j : Nat) (hj : j < bs.length) : w.cell? ⟨g, j, none⟩ = some (.int .u8 ((bs.getD j 0 : Nat) : Int)) := by
  rw [World.ownsRow.cellAt h j (by omega)]
  simp [u8s, List.getD, hj]
theorem OwB.freeAt {w : World} {base g cap : Nat} {bs : List Nat} (h : OwB w base (.slice (some ⟨g, 0, none⟩) bs.length cap) bs) (j : Nat) : w.frozen? ⟨g, j, none⟩ = false := World.ownsRow.frozenAt h j

theorem flip_set (bs : List Nat) (k y : Nat) (h : k < bs.length) : (List.replicate k 0 ++ bs.drop k).set k y = List.replicate k 0 ++ y :: bs.drop (k + 1) := by
  rw [List.set_append_right _ _ (by simp)]
  simp only [List.length_replicate, Nat.sub_self]
  rw [List.drop_eq_getElem_cons h, List.set_cons_zero]


end Go.Proofs.Ythoiajpbpoglfaa
