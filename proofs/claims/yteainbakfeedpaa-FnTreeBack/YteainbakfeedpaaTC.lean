/- Contracts of the laws' own small functions on rows of nodes: compared, copied. -/
import Derived.Test.YteainbakfeedpaaTB
import Derived.Deep.RegionHeld3
namespace Go.Proofs.Yteainbakfeedpaa
set_option linter.unusedVariables false
set_option linter.unusedSimpArgs false
open Go.RowKit

/-- A node: its text, where its kids lie, its kids. -/
structure Nd where
  txt : ByteArray
  a : Option Addr
  c : Nat
  ks : List Int

def Nd.ct (n : Nd) : Ct := (n.txt, n.ks)

def NdAt (w : World) (b o : Nat) (n : Nd) : Prop :=
  w.cell? ⟨b, o, none⟩ = some (.string n.txt) ∧ w.cell? ⟨b, o + 1, none⟩ = some (.slice n.a n.ks.length n.c) ∧ RdI w n.a n.ks ∧ n.txt.size ≤ 1048576

theorem NdAt.later {w w' : World} {b o : Nat} {n : Nd} (h : NdAt w b o n) (hb : Below w.heap.size w w') : NdAt w' b o n := by
  obtain ⟨f0, f1, f2, f3⟩ := h
  exact ⟨by rw [hb.cell (by exact block_lt_of_cell f0)]; exact f0, by rw [hb.cell (by exact block_lt_of_cell f1)]; exact f1, f2.later hb, f3⟩

/-- A slice whose nodes are ns, wherever it lies. -/
def RdN (w : World) (a : Option Addr) (ns : List Nd) : Prop :=
  ns.length ≤ 1048576 ∧ (ns = [] ∨ ∃ b o, a = some ⟨b, o, none⟩ ∧ ∀ i n, ns[i]? = some n → NdAt w b (o + i * 2) n)

theorem RdN.later {w w' : World} {a : Option Addr} {ns : List Nd} (h : RdN w a ns) (hb : Below w.heap.size w w') : RdN w' a ns := by
  refine ⟨h.1, ?_⟩
  rcases h.2 with h | ⟨b, o, rfl, hc⟩
  · exact .inl h
  · exact .inr ⟨b, o, rfl, fun i n hi => (hc i n hi).later hb⟩

/-- Behind a call that lets all old blocks be: all old cells read as before, and may be written as before. -/
theorem bcell {W w1 : World} (hb : Below W.heap.size W w1) : (∀ b o, b < W.heap.size → w1.cell? ⟨b, o, none⟩ = W.cell? ⟨b, o, none⟩) ∧ (∀ b o, b < W.heap.size → w1.frozen? ⟨b, o, none⟩ = W.frozen? ⟨b, o, none⟩) :=
  ⟨fun b o h => hb.cell (p := ⟨b, o, none⟩) h, fun b o h => hb.frozen (p := ⟨b, o, none⟩) h⟩
theorem undrew {B : Nat} {w w' : World} (h : Below B w.drew w') : Below B w w' := ⟨h.os, h.tape, h.output, h.size, h.block⟩

theorem str_ne {s t : ByteArray} (h : s ≠ t) : (s.toList == t.toList) = false := by
  rw [ByteArray.toList_eq, ByteArray.toList_eq, beq_eq_false_iff_ne]
  intro e
  exact h (ByteArray.ext (Array.toList_inj.1 e))

theorem eqNode_any (s t : ByteArray) (a b : Option Addr) (c d : Nat) (xs ys : List Int) (w : World) (hr : RdI w a xs) (hs : RdI w b ys) :
    Calls Try.prog 68 #[.agg #[.string s, .slice a xs.length c], .agg #[.string t, .slice b ys.length d]] w fun e w' => e = .returned (.bool (decide (s = t ∧ xs = ys))) ∧ Below w.heap.size w w' := by
  have h2 : Below w.heap.size w ((w.alloc (Obj.cells #[Value.string s, Value.slice a xs.length c] 59)).alloc (Obj.cells #[Value.string t, Value.slice b ys.length d] 59)) := ((Below.refl _ _).alloc (Nat.le_refl _) _).alloc (by simp) _
  have hl1 := hr.1
  have hl2 := hs.1
  by_cases hst : s = t
  · subst hst
    have HE := show Hid _ from eqInt64S_any a b c d xs ys _ (hr.later h2) (hs.later h2)
    have hR : decide (s = s ∧ xs = ys) = decide (xs = ys) := by simp
    rw [hR]
    clear hr hs hR
    generalize decide (xs = ys) = r at HE ⊢
    cases r with
    | true =>
      go_enter Try.func68, Try.ntmps68
      go_wp2_with fail
      refine Calls.mono HE.out ?_
      rintro e w1 ⟨rfl, hb1⟩
      go_wp2_with fail
      go_ret
      exact ⟨rfl, h2.trans (hb1.mono (by simp; omega))⟩
    | false =>
      go_enter Try.func68, Try.ntmps68
      go_wp2_with fail
      refine Calls.mono HE.out ?_
      rintro e w1 ⟨rfl, hb1⟩
      go_wp2_with fail
      go_ret
      exact ⟨rfl, h2.trans (hb1.mono (by simp; omega))⟩
  · have hR : decide (s = t ∧ xs = ys) = false := by simp [hst]
    rw [hR]
    have hne := str_ne hst
    clear hr hs hR
    go_enter Try.func68, Try.ntmps68
    go_wp2_with fail
    go_ret
    exact ⟨rfl, h2⟩

theorem eqNodeS_any (a b : Option Addr) (c d : Nat) (xs ys : List Nd) (w : World) (hr : RdN w a xs) (hs : RdN w b ys) :
    Calls Try.prog 46 #[.slice a xs.length c, .slice b ys.length d] w fun e w' => e = .returned (.bool (decide (xs.map Nd.ct = ys.map Nd.ct))) ∧ Below w.heap.size w w' := by
  have hl1 := hr.1
  have hl2 := hs.1
  by_cases hl : xs.length = ys.length
  · have hne : ((xs.length : Int) != (ys.length : Int)) = false := by simp [hl]
    have HL : Hid (xs.length = ys.length) := hl
    clear hl
    go_enter Try.func46, Try.ntmps46
    go_wp2_with fail
    clear hne
    go_loopw [5] (fun i wr => ∃ k : Nat, k ≤ xs.length ∧ i = .int .i64 k ∧ (∀ (j : Nat) (x y : Nd), j < k → xs[j]? = some x → ys[j]? = some y → x.ct = y.ct) ∧ Below w.heap.size w wr) (fun i _ => xs.length - (intOf i).toNat)
    case atStart => exact ⟨0, Nat.zero_le _, rfl, fun j x y h => by omega, Below.refl _ _⟩
    case round =>
      obtain ⟨k, hk, rfl, hz, hbel⟩ := hrel
      have HZ := show Hid _ from hz
      have HB := show Hid _ from hbel
      by_cases hlt : k < xs.length
      · obtain ⟨-, h | ⟨b1, o1, rfl, hc1⟩⟩ := hr
        · subst h; simp at hlt
        have hlt2 : k < ys.length := by have := HL.out; omega
        obtain ⟨-, h | ⟨b2, o2, rfl, hc2⟩⟩ := hs
        · subst h; simp at hlt2
        obtain ⟨⟨s1, a1, c1, k1⟩, hx⟩ : ∃ x, xs[k] = x := ⟨_, rfl⟩
        obtain ⟨⟨s2, a2, c2, k2⟩, hy⟩ : ∃ y, ys[k] = y := ⟨_, rfl⟩
        have gx : xs[k]? = some ⟨s1, a1, c1, k1⟩ := by rw [List.getElem?_eq_getElem hlt, hx]
        have gy : ys[k]? = some ⟨s2, a2, c2, k2⟩ := by rw [List.getElem?_eq_getElem hlt2, hy]
        obtain ⟨p0, p1, p2, p3⟩ := (hc1 k _ gx)
        obtain ⟨q0, q1, q2, q3⟩ := (hc2 k _ gy)
        have p0' : wr.cell? ⟨b1, o1 + k * 2, none⟩ = some (.string s1) := by rw [hbel.cell (by exact block_lt_of_cell p0)]; exact p0
        have p1' : wr.cell? ⟨b1, o1 + k * 2 + 1, none⟩ = some (.slice a1 k1.length c1) := by rw [hbel.cell (by exact block_lt_of_cell p1)]; exact p1
        have q0' : wr.cell? ⟨b2, o2 + k * 2, none⟩ = some (.string s2) := by rw [hbel.cell (by exact block_lt_of_cell q0)]; exact q0
        have q1' : wr.cell? ⟨b2, o2 + k * 2 + 1, none⟩ = some (.slice a2 k2.length c2) := by rw [hbel.cell (by exact block_lt_of_cell q1)]; exact q1
        have p2' : RdI wr a1 k1 := p2.later hbel
        have q2' : RdI wr a2 k2 := q2.later hbel
        have GX : Hid _ := gx
        have GY : Hid _ := gy
        clear gx gy hx hy hc1 hc2 hz hbel p0 p1 p2 p3 q0 q1 q2 q3
        have i0 : (k : Int) < (xs.length : Int) := by omega
        have i1 : (k : Int) < (ys.length : Int) := by omega
        cases hres : decide (s1 = s2 ∧ k1 = k2) with
        | true =>
          have HR : Hid _ := hres
          have HE : ∀ u, Below wr.heap.size wr u → Calls Try.prog 68 #[.agg #[.string s1, .slice a1 k1.length c1], .agg #[.string s2, .slice a2 k2.length c2]] u fun e w' => e = .returned (.bool true) ∧ Below u.heap.size u w' := fun u hu => by
            have := eqNode_any s1 s2 a1 a2 c1 c2 k1 k2 u (p2'.later hu) (q2'.later hu)
            rwa [hres] at this
          have HE' : Hid _ := HE
          clear hres HE p2' q2'
          go_wp2_with fail
          go_region_held3 (fun u => u.cell? ⟨b1, o1 + k * 2, none⟩ = some (Value.string s1) ∧ u.cell? ⟨b1, o1 + k * 2 + 1, none⟩ = some (Value.slice a1 k1.length c1) ∧ u.cell? ⟨b2, o2 + k * 2, none⟩ = some (Value.string s2) ∧ u.cell? ⟨b2, o2 + k * 2 + 1, none⟩ = some (Value.slice a2 k2.length c2)) (simp [*])
            ((go_at_call 68; refine Calls.mono (HE'.out _ ?_) ?_; exact (Below.refl _ _).drew; rintro e w1 ⟨rfl, hb1⟩; replace hb1 := undrew hb1; have k0 := (bcell hb1).1 b1 (o1 + k * 2) (block_lt_of_cell p0'); have k1' := (bcell hb1).1 b1 (o1 + k * 2 + 1) (block_lt_of_cell p0'); have k2' := (bcell hb1).1 b2 (o2 + k * 2) (block_lt_of_cell q0'); have k3 := (bcell hb1).1 b2 (o2 + k * 2 + 1) (block_lt_of_cell q0')))
          go_wp2_with fail
          go_roundw
          case rel =>
            refine ⟨k + 1, by omega, by go_num, fun j x y hj hx hy => ?_, HB.out.trans (hb1.mono HB.out.size)⟩
            by_cases hj' : j = k
            · subst hj'
              rw [GX.out] at hx
              rw [GY.out] at hy
              cases hx
              cases hy
              have := HR.out
              simp at this
              simp [Nd.ct, this]
            · exact HZ.out j x y (by omega) hx hy
          case measure => simp [intOf]; omega
        | false =>
          have HR : Hid _ := hres
          have HE : ∀ u, Below wr.heap.size wr u → Calls Try.prog 68 #[.agg #[.string s1, .slice a1 k1.length c1], .agg #[.string s2, .slice a2 k2.length c2]] u fun e w' => e = .returned (.bool false) ∧ Below u.heap.size u w' := fun u hu => by
            have := eqNode_any s1 s2 a1 a2 c1 c2 k1 k2 u (p2'.later hu) (q2'.later hu)
            rwa [hres] at this
          have HE' : Hid _ := HE
          clear hres HE p2' q2'
          go_wp2_with fail
          go_region_held3 (fun u => u.cell? ⟨b1, o1 + k * 2, none⟩ = some (Value.string s1) ∧ u.cell? ⟨b1, o1 + k * 2 + 1, none⟩ = some (Value.slice a1 k1.length c1) ∧ u.cell? ⟨b2, o2 + k * 2, none⟩ = some (Value.string s2) ∧ u.cell? ⟨b2, o2 + k * 2 + 1, none⟩ = some (Value.slice a2 k2.length c2)) (simp [*])
            ((go_at_call 68; refine Calls.mono (HE'.out _ ?_) ?_; exact (Below.refl _ _).drew; rintro e w1 ⟨rfl, hb1⟩; replace hb1 := undrew hb1; have k0 := (bcell hb1).1 b1 (o1 + k * 2) (block_lt_of_cell p0'); have k1' := (bcell hb1).1 b1 (o1 + k * 2 + 1) (block_lt_of_cell p0'); have k2' := (bcell hb1).1 b2 (o2 + k * 2) (block_lt_of_cell q0'); have k3 := (bcell hb1).1 b2 (o2 + k * 2 + 1) (block_lt_of_cell q0')))
          go_wp2_with fail
          go_ret
          refine ⟨ret_bool ?_, HB.out.trans (hb1.mono HB.out.size)⟩
          symm
          rw [decide_eq_false_iff_not]
          intro h
          have h1 := congrArg (fun l => l[k]?) h
          simp [GX.out, GY.out, Nd.ct] at h1
          have := HR.out
          simp at this
          exact this h1.1 h1.2
      · clear hz hbel
        go_wp2_with fail
        go_ret
        refine ⟨ret_bool ?_, HB.out⟩
        symm
        rw [decide_eq_true_eq]
        refine List.ext_getElem (by simpa using HL.out) fun j h1 h2 => ?_
        simp at h1 h2
        have := HZ.out j xs[j] ys[j] (by omega) (by simp [h1]) (by simp [h2])
        simpa using this
  · have hne : ((xs.length : Int) != (ys.length : Int)) = true := by simp; omega
    have hx : xs.map Nd.ct ≠ ys.map Nd.ct := fun h => hl (by simpa using congrArg List.length h)
    go_enter Try.func46, Try.ntmps46
    go_wp2_with fail
    go_ret
    exact ⟨ret_bool (by simp [hx]), Below.refl _ _⟩

end Go.Proofs.Yteainbakfeedpaa
