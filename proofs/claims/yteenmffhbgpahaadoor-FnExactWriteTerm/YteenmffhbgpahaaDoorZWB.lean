/- Several texts in one. -/
import Derived.Test.YteenmffhbgpahaaDoorZWA
import Derived.WalkKit
import Derived.WalkSpells
import Derived.Deep.QuietTactic
import Derived.BigQuiet
import Derived.Outline
import Derived.WalkSmall
import Derived.Deep.OwnRows

/- Contracts of toBits and eqBits of the laws. -/
namespace Go.Proofs.YteenmffhbgpahaaDoor
set_option linter.unusedVariables false
set_option linter.unusedSimpArgs false
open Go.RowKit

/-- What was laid when a call began still stands. -/
def St (w : World) (bx : Obj) (wk : World) : Prop := Below (w.heap.size + 1) (w.alloc bx) wk

theorem St.start (w : World) (bx : Obj) : St w bx (w.alloc bx) := Below.refl _ _
theorem St.size {w wk : World} {bx : Obj} (h : St w bx wk) : w.heap.size < wk.heap.size := by
  have := Below.size h
  simp at this; omega
theorem St.next {w wk w1 : World} {bx : Obj} (h : St w bx wk) (hb : Below wk.heap.size wk w1) : St w bx w1 := Below.trans h (hb.mono (by have := h.size; omega))
theorem St.next' {w wk w1 : World} {bx : Obj} {B : Nat} (h : St w bx wk) (hb : Below B wk w1) (hB : w.heap.size < B) : St w bx w1 := Below.trans h (hb.mono hB)
theorem St.cell {w wk : World} {cs : Array Value} {t : TypeId} (h : St w (.cells cs t) wk) (i : Nat) : wk.cell? ⟨w.heap.size, i, none⟩ = cs[i]? := by
  rw [Below.cell h (p := ⟨w.heap.size, i, none⟩) (by simp)]; simp
theorem St.two {w wk : World} {x y : Value} {t : TypeId} (h : St w (.cells #[x, y] t) wk) : wk.cell? ⟨w.heap.size, 0, none⟩ = some x ∧ wk.cell? ⟨w.heap.size, 1, none⟩ = some y :=
  ⟨h.cell 0, h.cell 1⟩
theorem St.below {w wk : World} {bx : Obj} (h : St w bx wk) : Below w.heap.size w wk := ((Below.refl _ _).alloc (Nat.le_refl _) _).trans (Below.mono h (Nat.le_succ _))
theorem St.rd {w wk : World} {bx : Obj} (h : St w bx wk) {a : Option Addr} {xs : List Nat} (hr : Rd w a xs) : Rd wk a xs := hr.later h.below

theorem undrew {B : Nat} {w w' : World} (h : Below B w.drew w') : Below B w w' := ⟨h.os, h.tape, h.output, h.size, h.block⟩

/-- Behind a call that lets all old blocks be: all old cells read as before, and may be written as before. -/
theorem bcell {W w1 : World} (hb : Below W.heap.size W w1) : (∀ b o, b < W.heap.size → w1.cell? ⟨b, o, none⟩ = W.cell? ⟨b, o, none⟩) ∧ (∀ b o, b < W.heap.size → w1.frozen? ⟨b, o, none⟩ = W.frozen? ⟨b, o, none⟩) :=
  ⟨fun b o h => hb.cell (p := ⟨b, o, none⟩) h, fun b o h => hb.frozen (p := ⟨b, o, none⟩) h⟩

theorem Own.other {w : World} {g : Nat} {xs : List Nat} (h : Own w g xs) {a : Addr} (ha : g ≠ a.block) (v : Value) : Own (w.setCell a v) g xs := by
  unfold Own
  rw [heap_setCell_other w a g v ha]; exact h

theorem toBits_any (W : Int) (a : Option Addr) (c : Nat) (xs : List Nat) (w : World) (hr : Rd w a xs) :
    Calls Tryd.prog 50 #[.agg #[.int .i64 W, .slice a xs.length c]] w fun e w' => ∃ g, e = .returned (.agg #[.int .i64 W, .slice (some ⟨g, 0, none⟩) xs.length xs.length]) ∧ w.heap.size ≤ g ∧ Own w' g xs ∧ Below w.heap.size w w' := by
  go_enter Tryd.func50, Tryd.ntmps50
  go_wp2_with fail
  refine (toUint64S_any a c xs _ ?_).mono ?_
  · exact hr.later ((((Below.refl _ _).alloc (Nat.le_refl _) _).alloc (by simp) _).alloc (by simp; omega) _)
  rintro e w1 ⟨rfl, hown, hb⟩
  obtain ⟨hc, hf⟩ := bcell hb
  have hz : w.heap.size + 1 + 1 < w1.heap.size := by have := hb.size; simp at this; omega
  have HO := show Hid _ from hown
  have HB := show Hid _ from hb
  clear hown hb hr
  go_wp2
  refine bodyPost_ret (v := .agg #[.int .i64 W, .slice (some ⟨w.heap.size + 1 + 1 + 1, 0, none⟩) xs.length xs.length]) (by simp [results, Tryd.results50, go_sem, hc]) rfl ⟨_, rfl, by omega, ?_, ?_⟩
  · have h := HO.out
    simp only [World.size_alloc] at h
    exact ((Own.other h (by simp) _).other (by simp; omega) _).other (by simp; omega) _
  · have h := HB.out
    have h0 : Below w.heap.size w w1 := ((((Below.refl _ _).alloc (Nat.le_refl _) _).alloc (by simp) _).alloc (by simp; omega) _).trans (h.mono (by simp; omega))
    exact ((h0.setCell (by simp; omega) _).setCell (by simp) _).setCell (by simp) _

theorem eqUint64S_any (a b : Option Addr) (c d : Nat) (xs ys : List Nat) (w : World) (hr : Rd w a xs) (hs : Rd w b ys) :
    Calls Tryd.prog 78 #[.slice a xs.length c, .slice b ys.length d] w fun e w' => e = .returned (.bool (decide (xs = ys))) ∧ Below w.heap.size w w' := by
  have hl1 := hr.1
  have hl2 := hs.1
  by_cases hl : xs.length = ys.length
  · have hne : ((xs.length : Int) != (ys.length : Int)) = false := by simp [hl]
    have HL : Hid (xs.length = ys.length) := hl
    clear hl
    go_enter Tryd.func78, Tryd.ntmps78
    go_wp2
    clear hne
    go_loopw [5] (fun i wr => ∃ k : Nat, k ≤ xs.length ∧ i = .int .i64 k ∧ (∀ j, j < k → xs.getD j 0 = ys.getD j 0) ∧ Below w.heap.size w wr) (fun i _ => xs.length - (intOf i).toNat)
    case atStart => exact ⟨0, Nat.zero_le _, rfl, fun j h => by omega, Below.refl _ _⟩
    case round =>
      obtain ⟨k, hk, rfl, hz, hbel⟩ := hrel
      have HZ := show Hid _ from hz
      have HB := show Hid _ from hbel
      by_cases hlt : k < xs.length
      · obtain ⟨-, -, h | ⟨b1, o1, rfl, hc1⟩⟩ := hr
        · subst h; simp at hlt
        have hlt2 : k < ys.length := by have := HL.out; omega
        obtain ⟨-, -, h | ⟨b2, o2, rfl, hc2⟩⟩ := hs
        · subst h; simp at hlt2
        have e1 := hc1 k hlt
        have e2 := hc2 k hlt2
        have f1 : wr.cell? ⟨b1, o1 + k, none⟩ = some (.int .u64 ((xs.getD k 0 : Nat) : Int)) := by rw [hbel.cell (by exact block_lt_of_cell e1)]; exact e1
        have f2 : wr.cell? ⟨b2, o2 + k, none⟩ = some (.int .u64 ((ys.getD k 0 : Nat) : Int)) := by rw [hbel.cell (by exact block_lt_of_cell e2)]; exact e2
        have hxe : decide (xs = ys) = false ∨ xs.getD k 0 = ys.getD k 0 := by
          by_cases h : xs = ys
          · exact .inr (by rw [h])
          · exact .inl (by simp [h])
        clear hc1 hc2 hz hbel e1 e2
        have i0 : (k : Int) < (xs.length : Int) := by omega
        have i1 : (k : Int) < (ys.length : Int) := by omega
        generalize hx1 : xs.getD k 0 = x1 at *
        generalize hy1 : ys.getD k 0 = y1 at *
        have HX : Hid (xs.getD k 0 = x1) := hx1
        have HY : Hid (ys.getD k 0 = y1) := hy1
        clear hx1 hy1
        by_cases hxy : x1 = y1
        · have hb : ((x1 : Int) != (y1 : Int)) = false := by simp [hxy]
          have HE : Hid (x1 = y1) := hxy
          clear hxe hxy
          go_wp2_with fail
          go_quiet (fail)
          go_wp2
          go_roundw
          case rel =>
            refine ⟨k + 1, by omega, by go_num, fun j hj => ?_, below_drewN HB.out _⟩
            by_cases hj' : j = k
            · rw [hj', HX.out, HY.out]; exact HE.out
            · exact HZ.out j (by omega)
          case measure => simp [intOf]; omega
        · have hb : ((x1 : Int) != (y1 : Int)) = true := by simp; omega
          have HE : Hid (decide (xs = ys) = false) := by
            rcases hxe with h | h
            · exact h
            · exact absurd h hxy
          clear hxe hxy
          go_wp2_with fail
          go_quiet (fail)
          go_wp2
          go_ret
          exact ⟨ret_bool HE.out.symm, below_drewN HB.out _⟩
      · clear hz hbel
        go_wp2
        go_ret
        refine ⟨ret_bool ?_, HB.out⟩
        have he : xs = ys := by
          refine List.ext_getElem HL.out fun j h1 h2 => ?_
          have := HZ.out j (by omega)
          simpa [List.getD, h1, h2] using this
        simp [he]
  · have hne : ((xs.length : Int) != (ys.length : Int)) = true := by simp; omega
    have hx : xs ≠ ys := fun h => hl (by rw [h])
    go_enter Tryd.func78, Tryd.ntmps78
    go_wp2
    go_ret
    exact ⟨ret_bool (by simp [hx]), Below.refl _ _⟩

theorem eqBits_any (V W : Int) (a b : Option Addr) (c d : Nat) (xs ys : List Nat) (w : World) (hr : Rd w a xs) (hs : Rd w b ys) :
    Calls Tryd.prog 63 #[.agg #[.int .i64 V, .slice a xs.length c], .agg #[.int .i64 W, .slice b ys.length d]] w fun e w' => e = .returned (.bool (decide (V = W ∧ xs = ys))) ∧ Below w.heap.size w w' := by
  have h2 : Below w.heap.size w ((w.alloc (Obj.cells #[Value.int IntKind.i64 V, Value.slice a xs.length c] 52)).alloc (Obj.cells #[Value.int IntKind.i64 W, Value.slice b ys.length d] 52)) := ((Below.refl _ _).alloc (Nat.le_refl _) _).alloc (by simp) _
  by_cases hV : V = W
  · have hne : (V != W) = false := by simp [hV]
    have HV : Hid (V = W) := hV
    clear hV
    have hr' := hr.later h2
    have hs' := hs.later h2
    cases he : decide (xs = ys) with
    | true =>
      have HE : Hid (decide (V = W ∧ xs = ys) = true) := by show _ = _; simp [HV.out]; simpa using he
      have H2 := show Hid _ from h2
      clear h2 hr hs
      go_enter Tryd.func63, Tryd.ntmps63
      go_wp2_with (go_at_call 78; refine (eqUint64S_any _ _ _ _ _ _ _ hr' hs').mono ?_; rintro e w' ⟨rfl, hb⟩)
      go_ret
      exact ⟨ret_bool HE.out.symm, H2.out.trans (hb.mono (by simp; omega))⟩
    | false =>
      have HE : Hid (decide (V = W ∧ xs = ys) = false) := by show _ = _; simp; intro _; simpa using he
      have H2 := show Hid _ from h2
      clear h2 hr hs
      go_enter Tryd.func63, Tryd.ntmps63
      go_wp2_with (go_at_call 78; refine (eqUint64S_any _ _ _ _ _ _ _ hr' hs').mono ?_; rintro e w' ⟨rfl, hb⟩)
      go_ret
      exact ⟨ret_bool HE.out.symm, H2.out.trans (hb.mono (by simp; omega))⟩
  · have hne : (V != W) = true := by simp [hV]
    clear hr hs
    go_enter Tryd.func63, Tryd.ntmps63
    go_wp2
    go_ret
    exact ⟨ret_bool (by simp [hV]), h2⟩

end Go.Proofs.YteenmffhbgpahaaDoor

/- Contracts of the laws' own small functions on rows of whole numbers: how long, copied, compared. -/
namespace Go.Proofs.YteenmffhbgpahaaDoor
set_option linter.unusedVariables false
set_option linter.unusedSimpArgs false
open Go.RowKit

theorem Tryd.infoI64 : (Tryd.prog.info? 2).map (fun i => (i.zero, i.size, i.bytes)) = some (some (.int .i64 0), 1, 8) := by kernel_rfl


/-- A slice whose numbers are ks, wherever it lies. -/
def RdI (w : World) (a : Option Addr) (ks : List Int) : Prop :=
  ks.length ≤ 1048576 ∧ (∀ k ∈ ks, in64 k) ∧ (ks = [] ∨ ∃ b o, a = some ⟨b, o, none⟩ ∧ ∀ i, i < ks.length → w.cell? ⟨b, o + i, none⟩ = some (.int .i64 (ks.getD i 0)))

theorem RdI.later {w w' : World} {a : Option Addr} {ks : List Int} (h : RdI w a ks) (hb : Below w.heap.size w w') : RdI w' a ks := by
  obtain ⟨h1, h2, h3⟩ := h
  refine ⟨h1, h2, ?_⟩
  rcases h3 with h3 | ⟨b, o, rfl, hc⟩
  · exact .inl h3
  · refine .inr ⟨b, o, rfl, fun i hi => ?_⟩
    have := hc i hi
    rw [hb.cell (p := ⟨b, o + i, none⟩) (by exact block_lt_of_cell this)]
    exact this

def i64s (ks : List Int) : Array Value := (ks.map fun (k : Int) => Value.int .i64 k).toArray

theorem i64s_size (ks : List Int) : (i64s ks).size = ks.length := by simp [i64s]
theorem i64s_get (ks : List Int) (i : Nat) (h : i < ks.length) : (i64s ks)[i]? = some (.int .i64 (ks.getD i 0)) := by simp [i64s, List.getD, h]
theorem i64s_set (ks : List Int) (i : Nat) (k : Int) : (i64s ks).setIfInBounds i (.int .i64 k) = i64s (ks.set i k) := by
  simp [i64s, List.setIfInBounds_toArray, List.map_set]
theorem i64s_made (n : Nat) : madeCells #[Value.int .i64 0] n = i64s (List.replicate n 0) := by
  apply Array.toList_inj.1
  rw [toList_madeCells_one]
  simp [i64s]

/-- The block g holds just the numbers ks, and may be written. -/
def OwnI (w : World) (g : Nat) (ks : List Int) : Prop := w.heap[g]? = some (.cells (i64s ks) 2 (0, 0))

theorem OwnI.cell {w : World} {g : Nat} {ks : List Int} (h : OwnI w g ks) {i : Nat} (hi : i < ks.length) : w.cell? ⟨g, i, none⟩ = some (.int .i64 (ks.getD i 0)) := by
  rw [cell_of_row w g i _ _ _ h, i64s_get _ _ hi]
theorem OwnI.free {w : World} {g : Nat} {ks : List Int} (h : OwnI w g ks) (i : Nat) : w.frozen? ⟨g, i, none⟩ = false := frozen_of_row w g i _ _ h
theorem OwnI.lt {w : World} {g : Nat} {ks : List Int} (h : OwnI w g ks) : g < w.heap.size := lt_of_block h
theorem OwnI.put {w : World} {g : Nat} {ks : List Int} (h : OwnI w g ks) (i : Nat) (k : Int) : OwnI (w.setCell ⟨g, i, none⟩ (.int .i64 k)) g (ks.set i k) := by
  unfold OwnI
  rw [heap_setCell_same w g i _ _ _ h, i64s_set]
theorem OwnI.rd {w : World} {g : Nat} {ks : List Int} (h : OwnI w g ks) (hl : ks.length ≤ 1048576) (hx : ∀ k ∈ ks, in64 k) : RdI w (some ⟨g, 0, none⟩) ks :=
  ⟨hl, hx, .inr ⟨g, 0, rfl, fun i hi => by rw [Nat.zero_add]; exact h.cell hi⟩⟩
theorem OwnI.later {w w' : World} {g B : Nat} {ks : List Int} (h : OwnI w g ks) (hb : Below B w w') (hg : g < B) : OwnI w' g ks := by
  unfold OwnI
  rw [hb.block g hg]; exact h
theorem OwnI.other {w : World} {g : Nat} {ks : List Int} (h : OwnI w g ks) {a : Addr} (ha : g ≠ a.block) (v : Value) : OwnI (w.setCell a v) g ks := by
  unfold OwnI
  rw [heap_setCell_other w a g v ha]; exact h

theorem szInt64S_any (a : Option Addr) (n c : Nat) (L : Int) (w : World) (hL : 0 ≤ L) (hL2 : L ≤ 1048576) (hn : n ≤ 9223372036854775807) :
    Calls Tryd.prog 42 #[.slice a n c, .int .i64 L] w fun e w' => e = .returned (.int .i64 (if (n : Int) ≤ L then L - n else -1)) ∧ w' = w := by
  by_cases h : (n : Int) ≤ L
  · rw [if_pos h]
    go_enter Tryd.func42, Tryd.ntmps42
    go_wp2
    go_ret
    exact ⟨rfl, rfl⟩
  · rw [if_neg h]
    go_enter Tryd.func42, Tryd.ntmps42
    go_wp2
    go_ret
    exact ⟨rfl, rfl⟩

theorem take_setI (xs : List Int) (k : Nat) (h : k < xs.length) :
    (xs.take k ++ List.replicate (xs.length - k) 0).set k (xs.getD k 0) = xs.take (k + 1) ++ List.replicate (xs.length - (k + 1)) 0 := by
  apply List.ext_getElem?
  intro i
  simp only [List.getElem?_set, List.getElem?_append, List.getElem?_take, List.length_take, List.getElem?_replicate, List.length_append, List.length_replicate, List.getD]
  split <;> split <;> split <;> (try split) <;> (try split) <;> (try omega) <;> simp_all <;> (try omega)

theorem toInt64S_any (a : Option Addr) (c : Nat) (xs : List Int) (w : World) (hr : RdI w a xs) :
    Calls Tryd.prog 51 #[.slice a xs.length c] w fun e w' => e = .returned (.slice (some ⟨w.heap.size, 0, none⟩) xs.length xs.length) ∧ OwnI w' w.heap.size xs ∧ Below w.heap.size w w' := by
  have hlen := hr.1
  have hmk := fun kl kc w => run_make_row' (P := Tryd.prog) 43 2 (.int .i64 0) 8 Tryd.underlying43 Tryd.infoI64 rfl kl kc xs.length (by omega) (by omega) w
  go_enter Tryd.func51, Tryd.ntmps51
  go_wp2
  go_loopw [4] (fun i wr => ∃ k : Nat, k ≤ xs.length ∧ i = .int .i64 k ∧ OwnI wr w.heap.size (xs.take k ++ List.replicate (xs.length - k) 0) ∧ Below w.heap.size w wr) (fun i _ => xs.length - (intOf i).toNat)
  case atStart =>
    refine ⟨0, Nat.zero_le _, rfl, ?_, (Below.refl _ _).alloc (Nat.le_refl _) _⟩
    unfold OwnI
    rw [heap_alloc_new, i64s_made]
    rfl
  case round =>
    obtain ⟨k, hk, rfl, hown, hbel⟩ := hrel
    by_cases hlt : k < xs.length
    · obtain ⟨-, -, h | ⟨b, o, rfl, hc⟩⟩ := hr
      · subst h; simp at hlt
      have hcell := hc k hlt
      have hb : b < w.heap.size := block_lt_of_cell hcell
      have hcw : wr.cell? ⟨b, o + k, none⟩ = some (.int .i64 (xs.getD k 0)) := by rw [hbel.cell (by exact hb)]; exact hcell
      have hcg := hown.cell (i := k) (by simp; omega)
      have hfg := hown.free k
      have HO := show Hid _ from hown.put k (xs.getD k 0)
      have HB := show Hid _ from hbel
      generalize (xs.take k ++ List.replicate (xs.length - k) 0).getD k 0 = z at hcg
      have HT := show Hid _ from take_setI xs k hlt
      clear hc hcell hown hbel hmk
      generalize xs.getD k 0 = y at *
      go_wp2
      go_roundw
      case rel =>
        have h := HO.out
        rw [HT.out] at h
        exact ⟨k + 1, by omega, by go_num, h, HB.out.setCell (Nat.le_refl _) _⟩
      case measure => simp [intOf]; omega
    · clear hmk
      go_wp2
      go_ret
      refine ⟨rfl, ?_, hbel⟩
      have e : k = xs.length := by omega
      rw [e] at hown
      simpa using hown

theorem eqInt64S_any (a b : Option Addr) (c d : Nat) (xs ys : List Int) (w : World) (hr : RdI w a xs) (hs : RdI w b ys) :
    Calls Tryd.prog 64 #[.slice a xs.length c, .slice b ys.length d] w fun e w' => e = .returned (.bool (decide (xs = ys))) ∧ Below w.heap.size w w' := by
  have hl1 := hr.1
  have hl2 := hs.1
  by_cases hl : xs.length = ys.length
  · have hne : ((xs.length : Int) != (ys.length : Int)) = false := by simp [hl]
    have HL : Hid (xs.length = ys.length) := hl
    clear hl
    go_enter Tryd.func64, Tryd.ntmps64
    go_wp2
    clear hne
    go_loopw [5] (fun i wr => ∃ k : Nat, k ≤ xs.length ∧ i = .int .i64 k ∧ (∀ j, j < k → xs.getD j 0 = ys.getD j 0) ∧ Below w.heap.size w wr) (fun i _ => xs.length - (intOf i).toNat)
    case atStart => exact ⟨0, Nat.zero_le _, rfl, fun j h => by omega, Below.refl _ _⟩
    case round =>
      obtain ⟨k, hk, rfl, hz, hbel⟩ := hrel
      have HZ := show Hid _ from hz
      have HB := show Hid _ from hbel
      by_cases hlt : k < xs.length
      · obtain ⟨-, -, h | ⟨b1, o1, rfl, hc1⟩⟩ := hr
        · subst h; simp at hlt
        have hlt2 : k < ys.length := by have := HL.out; omega
        obtain ⟨-, -, h | ⟨b2, o2, rfl, hc2⟩⟩ := hs
        · subst h; simp at hlt2
        have e1 := hc1 k hlt
        have e2 := hc2 k hlt2
        have f1 : wr.cell? ⟨b1, o1 + k, none⟩ = some (.int .i64 (xs.getD k 0)) := by rw [hbel.cell (by exact block_lt_of_cell e1)]; exact e1
        have f2 : wr.cell? ⟨b2, o2 + k, none⟩ = some (.int .i64 (ys.getD k 0)) := by rw [hbel.cell (by exact block_lt_of_cell e2)]; exact e2
        have hxe : decide (xs = ys) = false ∨ xs.getD k 0 = ys.getD k 0 := by
          by_cases h : xs = ys
          · exact .inr (by rw [h])
          · exact .inl (by simp [h])
        clear hc1 hc2 hz hbel e1 e2
        have i0 : (k : Int) < (xs.length : Int) := by omega
        have i1 : (k : Int) < (ys.length : Int) := by omega
        generalize hx1 : xs.getD k 0 = x1 at *
        generalize hy1 : ys.getD k 0 = y1 at *
        have HX : Hid (xs.getD k 0 = x1) := hx1
        have HY : Hid (ys.getD k 0 = y1) := hy1
        clear hx1 hy1
        by_cases hxy : x1 = y1
        · have hb : (x1 != y1) = false := by simp [hxy]
          have HE : Hid (x1 = y1) := hxy
          clear hxe hxy
          go_wp2_with fail
          go_quiet (fail)
          go_wp2
          go_roundw
          case rel =>
            refine ⟨k + 1, by omega, by go_num, fun j hj => ?_, below_drewN HB.out _⟩
            by_cases hj' : j = k
            · rw [hj', HX.out, HY.out]; exact HE.out
            · exact HZ.out j (by omega)
          case measure => simp [intOf]; omega
        · have hb : (x1 != y1) = true := by simpa using hxy
          have HE : Hid (decide (xs = ys) = false) := by
            rcases hxe with h | h
            · exact h
            · exact absurd h hxy
          clear hxe hxy
          go_wp2_with fail
          go_quiet (fail)
          go_wp2
          go_ret
          exact ⟨ret_bool HE.out.symm, below_drewN HB.out _⟩
      · clear hz hbel
        go_wp2
        go_ret
        refine ⟨ret_bool ?_, HB.out⟩
        have he : xs = ys := by
          refine List.ext_getElem HL.out fun j h1 h2 => ?_
          have := HZ.out j (by omega)
          simpa [List.getD, h1, h2] using this
        simp [he]
  · have hne : ((xs.length : Int) != (ys.length : Int)) = true := by simp; omega
    have hx : xs ≠ ys := fun h => hl (by rw [h])
    go_enter Tryd.func64, Tryd.ntmps64
    go_wp2
    go_ret
    exact ⟨ret_bool (by simp [hx]), Below.refl _ _⟩

end Go.Proofs.YteenmffhbgpahaaDoor

/- Contracts of the laws' own small functions on rows of term nodes: how long. -/
namespace Go.Proofs.YteenmffhbgpahaaDoor
set_option linter.unusedVariables false
set_option linter.unusedSimpArgs false
open Go.RowKit

/-- A node of a term as it lies. -/
structure Th where
  op : Int
  vr : Int
  a : Int
  b : Int
  bw : Int
  wa : Option Addr
  wn : Nat
  wc : Nat
  ka : Option Addr
  kn : Nat
  kc : Nat

def Th.val (h : Th) : Value := .agg #[.int .i64 h.op, .int .i64 h.vr, .int .i64 h.a, .int .i64 h.b, .int .i64 h.bw, .slice h.wa h.wn h.wc, .slice h.ka h.kn h.kc]

def ThAt (w : World) (b o : Nat) (h : Th) : Prop :=
  w.cell? ⟨b, o, none⟩ = some (.int .i64 h.op) ∧ w.cell? ⟨b, o + 1, none⟩ = some (.int .i64 h.vr) ∧ w.cell? ⟨b, o + 2, none⟩ = some (.int .i64 h.a) ∧ w.cell? ⟨b, o + 3, none⟩ = some (.int .i64 h.b) ∧ w.cell? ⟨b, o + 4, none⟩ = some (.int .i64 h.bw) ∧ w.cell? ⟨b, o + 5, none⟩ = some (.slice h.wa h.wn h.wc) ∧ w.cell? ⟨b, o + 6, none⟩ = some (.slice h.ka h.kn h.kc)

theorem ThAt.later {w w' : World} {b o : Nat} {h : Th} (k : ThAt w b o h) (hb : Below w.heap.size w w') : ThAt w' b o h := by
  obtain ⟨f0, f1, f2, f3, f4, f5, f6⟩ := k
  have l := block_lt_of_cell f0
  exact ⟨by rw [kcell hb _ _ l]; exact f0, by rw [kcell hb _ _ l]; exact f1, by rw [kcell hb _ _ l]; exact f2, by rw [kcell hb _ _ l]; exact f3, by rw [kcell hb _ _ l]; exact f4, by rw [kcell hb _ _ l]; exact f5, by rw [kcell hb _ _ l]; exact f6⟩

def RdTh (w : World) (a : Option Addr) (hs : List Th) : Prop :=
  hs.length ≤ 1048576 ∧ (hs = [] ∨ ∃ b o, a = some ⟨b, o, none⟩ ∧ ∀ i h, hs[i]? = some h → ThAt w b (o + i * 7) h ∧ h.wn ≤ 9223372036854775807 ∧ h.kn ≤ 9223372036854775807)

theorem RdTh.later {w w' : World} {a : Option Addr} {hs : List Th} (h : RdTh w a hs) (hb : Below w.heap.size w w') : RdTh w' a hs := by
  refine ⟨h.1, ?_⟩
  rcases h.2 with h | ⟨b, o, rfl, hc⟩
  · exact .inl h
  · exact .inr ⟨b, o, rfl, fun i x hi => ⟨(hc i x hi).1.later hb, (hc i x hi).2⟩⟩

def szT (h : Th) (L : Int) : Int := if (h.wn : Int) ≤ L ∧ (h.kn : Int) ≤ L - h.wn then L - h.wn - h.kn else -1

theorem szTNode_any (h : Th) (L : Int) (w : World) (hL : 0 ≤ L) (hL2 : L ≤ 1048576) (hn : h.wn ≤ 9223372036854775807) (hm : h.kn ≤ 9223372036854775807) :
    Calls Tryd.prog 27 #[h.val, .int .i64 L] w fun e w' => e = .returned (.int .i64 (szT h L)) ∧ Below w.heap.size w w' := by
  obtain ⟨op, vr, a, b, bw, wa, wn, wc, ka, kn, kc⟩ := h
  simp only [Th.val, szT] at hn hm ⊢
  have hb0 : Below w.heap.size w (w.alloc (Obj.cells #[Value.int .i64 op, Value.int .i64 vr, Value.int .i64 a, Value.int .i64 b, Value.int .i64 bw, Value.slice wa wn wc, Value.slice ka kn kc] 71)) := (Below.refl _ _).alloc (Nat.le_refl _) _
  have B0 := kide hb0
  clear hb0
  by_cases h : (wn : Int) ≤ L
  · by_cases h2 : (kn : Int) ≤ L - wn
    · rw [if_pos ⟨h, h2⟩]
      have HY := kide h
      have HZ := kide h2
      go_enter Tryd.func27, Tryd.ntmps27
      go_wp2_with fail
      refine (szBits_yes _ _ _ _ _ _ hL hL2 hn HY.out).mono ?_
      rintro e w1 ⟨rfl, hb1⟩
      have k6 := kcell hb1 w.heap.size 6 (by simp)
      simp at k6
      have B1 := kide (B0.out.trans (hb1.mono (by simp)))
      clear hb1
      go_wp2_with fail
      refine (szInt64S_any _ _ _ _ _ (by omega) (by omega) hm).mono ?_
      rw [if_pos HZ.out]
      rintro e w2 ⟨rfl, rfl⟩
      go_wp2_with fail
      go_ret
      exact ⟨rfl, B1.out⟩
    · rw [if_neg (by omega)]
      have HY := kide h
      have HZ : Hid (¬ (kn : Int) ≤ L - wn) := h2
      clear h2
      go_enter Tryd.func27, Tryd.ntmps27
      go_wp2_with fail
      refine (szBits_yes _ _ _ _ _ _ hL hL2 hn HY.out).mono ?_
      rintro e w1 ⟨rfl, hb1⟩
      have k6 := kcell hb1 w.heap.size 6 (by simp)
      simp at k6
      have B1 := kide (B0.out.trans (hb1.mono (by simp)))
      clear hb1
      go_wp2_with fail
      refine (szInt64S_any _ _ _ _ _ (by omega) (by omega) hm).mono ?_
      rw [if_neg (by have := HZ.out; omega)]
      rintro e w2 ⟨rfl, rfl⟩
      go_wp2_with fail
      go_ret
      exact ⟨rfl, B1.out⟩
  · rw [if_neg (by omega)]
    have HY : Hid (¬ (wn : Int) ≤ L) := h
    go_enter Tryd.func27, Tryd.ntmps27
    go_wp2_with fail
    refine (szBits_no _ _ _ _ _ _ hL hL2 hn (by have := HY.out; omega)).mono ?_
    rintro e w1 ⟨rfl, hb1⟩
    go_wp2_with fail
    go_ret
    exact ⟨rfl, B0.out.trans (hb1.mono (by simp))⟩

/-- What is left of L behind some nodes; -1: nothing. -/
def szTl : List Th → Int → Int
  | [], L => L
  | h :: t, L => if (h.wn : Int) ≤ L ∧ (h.kn : Int) ≤ L - h.wn then szTl t (L - h.wn - h.kn) else -1

theorem szTl_range (hs : List Th) (L : Int) (hL : 0 ≤ L) : szTl hs L = -1 ∨ 0 ≤ szTl hs L ∧ szTl hs L ≤ L ∧ ∀ h ∈ hs, (h.wn : Int) ≤ L ∧ (h.kn : Int) ≤ L := by
  induction hs generalizing L with
  | nil => right; simp [szTl]; exact hL
  | cons h t ih =>
    rw [szTl]
    split
    · rename_i hc
      rcases ih (L - h.wn - h.kn) (by omega) with e | ⟨e1, e2, e3⟩
      · left; exact e
      · right
        refine ⟨e1, by omega, fun x hx => ?_⟩
        rcases List.mem_cons.1 hx with rfl | hx
        · omega
        · have := e3 x hx; omega
    · left; rfl

theorem szTNodeS_in (a : Option Addr) (c : Nat) (hs : List Th) (L : Int) (w : World) (hr : RdTh w a hs) (hL : 0 ≤ L) (hL2 : L ≤ 1048576) (h : (hs.length : Int) ≤ L) :
    Calls Tryd.prog 13 #[.slice a hs.length c, .int .i64 L] w fun e w' => e = .returned (.int .i64 (szTl hs (L - hs.length))) ∧ Below w.heap.size w w' := by
  have hlen := hr.1
  generalize hZ : szTl hs (L - hs.length) = Z
  have HZ : Hid (szTl hs (L - hs.length) = Z) := hZ
  clear hZ
  go_enter Tryd.func13, Tryd.ntmps13
  go_wp2_with fail
  go_loopw [1, 5] (fun l i wr => ∃ (k : Nat) (Q : Int), k ≤ hs.length ∧ i = .int .i64 k ∧ l = .int .i64 Q ∧ 0 ≤ Q ∧ Q ≤ 1048576 ∧ szTl (hs.drop k) Q = Z ∧ Below w.heap.size w wr) (fun _ i _ => hs.length - (intOf i).toNat)
  case atStart => exact ⟨0, _, Nat.zero_le _, rfl, rfl, by omega, by omega, by rw [List.drop_zero]; exact HZ.out, Below.refl _ _⟩
  case round =>
    obtain ⟨k, Q, hk, rfl, rfl, hQ0, hQ1, hq, hbel⟩ := hrel
    by_cases hlt : k < hs.length
    · obtain ⟨-, h | ⟨b, o, rfl, hc⟩⟩ := hr
      · subst h; simp at hlt
      obtain ⟨x, hh⟩ : ∃ x, hs[k] = x := ⟨_, rfl⟩
      obtain ⟨f1, f2, f3⟩ := hc k x (by rw [List.getElem?_eq_getElem hlt, hh])
      obtain ⟨g0, g1, g2, g3, g4, g5, g6⟩ := f1.later hbel
      have HCA := kide (fun u => szTNode_any x Q u hQ0 hQ1 f2 f3)
      rw [List.drop_eq_getElem_cons hlt, hh, szTl] at hq
      obtain ⟨op, vr, a, b', bw, wa, wn, wc, ka, kn, kc⟩ := x
      simp only [Th.val, szT] at g0 g1 g2 g3 g4 g5 g6 hq f2 f3 HCA
      have HQ : Hid _ := hq
      have HB : Hid _ := hbel
      clear hc hh f1 hbel hq
      by_cases hyes : (wn : Int) ≤ Q ∧ (kn : Int) ≤ Q - wn
      · rw [if_pos hyes] at HCA
        go_wp2_with (go_at_call 27; refine Calls.mono (HCA.out _) ?_; rintro e w1 ⟨rfl, hb1⟩)
        go_roundw
        case rel =>
          have h := HQ.out
          rw [if_pos (by omega)] at h
          exact ⟨k + 1, _, by omega, by go_num, rfl, by omega, by omega, h, HB.out.trans (hb1.mono HB.out.size)⟩
        case measure => simp [intOf]; omega
      · rw [if_neg hyes] at HCA
        have HY := kide hyes
        clear hyes
        go_wp2_with (go_at_call 27; refine Calls.mono (HCA.out _) ?_; rintro e w1 ⟨rfl, hb1⟩)
        go_ret
        have h := HQ.out
        rw [if_neg (by have := HY.out; omega)] at h
        exact ⟨ret_int h, HB.out.trans (hb1.mono HB.out.size)⟩
    · have e : k = hs.length := by omega
      rw [e, List.drop_length, szTl] at hq
      have HQ : Hid _ := hq
      clear hq
      go_wp2_with fail
      go_ret
      exact ⟨ret_int HQ.out, hbel⟩

theorem szTNodeS_out (a : Option Addr) (n c : Nat) (L : Int) (w : World) (hL : 0 ≤ L) (hL2 : L ≤ 1048576) (hn : n ≤ 9223372036854775807) (h : ¬ (n : Int) ≤ L) :
    Calls Tryd.prog 13 #[.slice a n c, .int .i64 L] w fun e w' => e = .returned (.int .i64 (-1)) ∧ w' = w := by
  go_enter Tryd.func13, Tryd.ntmps13
  go_wp2_with fail
  go_ret
  exact ⟨rfl, rfl⟩

/-- A node: its numbers, its word, its kids. -/
structure Tc where
  op : Int
  vr : Int
  a : Int
  b : Int
  bw : Int
  ws : List Nat
  ks : List Int

/-- .. as it lies. -/
structure Tg where
  ct : Tc
  wa : Option Addr
  wc : Nat
  ka : Option Addr
  kc : Nat

def Tg.hd (x : Tg) : Th := ⟨x.ct.op, x.ct.vr, x.ct.a, x.ct.b, x.ct.bw, x.wa, x.ct.ws.length, x.wc, x.ka, x.ct.ks.length, x.kc⟩

def TgAt (w : World) (b o : Nat) (x : Tg) : Prop := ThAt w b o x.hd ∧ Rd w x.wa x.ct.ws ∧ RdI w x.ka x.ct.ks ∧ in64 x.ct.op ∧ in64 x.ct.vr ∧ in64 x.ct.a ∧ in64 x.ct.b ∧ in64 x.ct.bw

theorem TgAt.later {w w' : World} {b o : Nat} {x : Tg} (h : TgAt w b o x) (hb : Below w.heap.size w w') : TgAt w' b o x := ⟨h.1.later hb, h.2.1.later hb, h.2.2.1.later hb, h.2.2.2⟩

/-- A slice whose nodes are xs, wherever it lies. -/
def RdT (w : World) (a : Option Addr) (xs : List Tg) : Prop :=
  xs.length ≤ 1048576 ∧ (xs = [] ∨ ∃ b o, a = some ⟨b, o, none⟩ ∧ ∀ i n, xs[i]? = some n → TgAt w b (o + i * 7) n)

theorem RdT.later {w w' : World} {a : Option Addr} {xs : List Tg} (h : RdT w a xs) (hb : Below w.heap.size w w') : RdT w' a xs := by
  refine ⟨h.1, ?_⟩
  rcases h.2 with h | ⟨b, o, rfl, hc⟩
  · exact .inl h
  · exact .inr ⟨b, o, rfl, fun i n hi => (hc i n hi).later hb⟩

theorem szTerm_in (a : Option Addr) (c : Nat) (hs : List Th) (L : Int) (w : World) (hr : RdTh w a hs) (hL : 0 ≤ L) (hL2 : L ≤ 1048576) (h : (hs.length : Int) ≤ L) (n : Nat) (hn : hs.length = n) :
    Calls Tryd.prog 5 #[.agg #[.slice a n c], .int .i64 L] w fun e w' => e = .returned (.int .i64 (szTl hs (L - hs.length))) ∧ Below w.heap.size w w' := by
  subst hn
  have hb0 : Below w.heap.size w (w.alloc (Obj.cells #[Value.slice a hs.length c] 25)) := (Below.refl _ _).alloc (Nat.le_refl _) _
  have HC := kide (szTNodeS_in a c hs L _ (hr.later hb0) hL hL2 h)
  have hz := szTl_range hs (L - hs.length) (by omega)
  generalize szTl hs (L - hs.length) = Z at *
  have B0 := kide hb0
  clear hr hb0
  by_cases hz0 : Z < 0
  · have e : Z = -1 := by omega
    subst e
    go_enter Tryd.func5, Tryd.ntmps5
    go_wp2_with fail
    refine Calls.mono HC.out ?_
    rintro e w1 ⟨rfl, hb1⟩
    go_wp2_with fail
    go_ret
    exact ⟨rfl, B0.out.trans (hb1.mono (by simp))⟩
  · go_enter Tryd.func5, Tryd.ntmps5
    go_wp2_with fail
    refine Calls.mono HC.out ?_
    rintro e w1 ⟨rfl, hb1⟩
    go_wp2_with fail
    go_ret
    exact ⟨rfl, B0.out.trans (hb1.mono (by simp))⟩

theorem szTerm_out (a : Option Addr) (n c : Nat) (L : Int) (w : World) (hL : 0 ≤ L) (hL2 : L ≤ 1048576) (hn : n ≤ 9223372036854775807) (h : ¬ (n : Int) ≤ L) :
    Calls Tryd.prog 5 #[.agg #[.slice a n c], .int .i64 L] w fun e w' => e = .returned (.int .i64 (-1)) ∧ Below w.heap.size w w' := by
  have HH := kide h
  have hb0 : Below w.heap.size w (w.alloc (Obj.cells #[Value.slice a n c] 25)) := (Below.refl _ _).alloc (Nat.le_refl _) _
  go_enter Tryd.func5, Tryd.ntmps5
  go_wp2_with fail
  refine (szTNodeS_out a n c L _ hL hL2 hn (by have := HH.out; omega)).mono ?_
  rintro e w1 ⟨rfl, rfl⟩
  go_wp2_with fail
  go_ret
  exact ⟨rfl, hb0⟩

end Go.Proofs.YteenmffhbgpahaaDoor

/- A term node copied. -/
namespace Go.Proofs.YteenmffhbgpahaaDoor
set_option linter.unusedVariables false
set_option linter.unusedSimpArgs false
open Go.RowKit

set_option maxHeartbeats 1000000 in
theorem toTNode_any (s : Tc) (wa ka : Option Addr) (c1 c2 : Nat) (w : World) (hr1 : Rd w wa s.ws) (hr2 : RdI w ka s.ks) :
    Calls Tryd.prog 33 #[.agg #[.int .i64 s.op, .int .i64 s.vr, .int .i64 s.a, .int .i64 s.b, .int .i64 s.bw, .slice wa s.ws.length c1, .slice ka s.ks.length c2]] w fun e w' => ∃ g1 g2, e = .returned (.agg #[.int .i64 s.op, .int .i64 s.vr, .int .i64 s.a, .int .i64 s.b, .int .i64 s.bw, .slice (some ⟨g1, 0, none⟩) s.ws.length s.ws.length, .slice (some ⟨g2, 0, none⟩) s.ks.length s.ks.length]) ∧ w.heap.size ≤ g1 ∧ w.heap.size ≤ g2 ∧ Own w' g1 s.ws ∧ OwnI w' g2 s.ks ∧ Below w.heap.size w w' := by
  obtain ⟨op, vr, a, b, bw, ws, ks⟩ := s
  simp only [] at hr1 hr2 ⊢
  go_enter Tryd.func33, Tryd.ntmps33
  go_wp2_with fail
  have h3 : Below w.heap.size w (((w.alloc (Obj.cells #[Value.int .i64 op, Value.int .i64 vr, Value.int .i64 a, Value.int .i64 b, Value.int .i64 bw, Value.slice wa ws.length c1, Value.slice ka ks.length c2] 71)).alloc (Obj.cells #[Value.int .i64 0, Value.int .i64 0, Value.int .i64 0, Value.int .i64 0, Value.int .i64 0, Value.slice none 0 0, Value.slice none 0 0] 54)).alloc (Obj.cells #[Value.int .i64 op, Value.int .i64 vr, Value.int .i64 a, Value.int .i64 b, Value.int .i64 0, Value.slice none 0 0, Value.slice none 0 0] 54)) := (((Below.refl _ _).alloc (Nat.le_refl _) _).alloc (by simp) _).alloc (by simp; omega) _
  refine (toBits_any bw wa c1 ws _ (hr1.later h3)).mono ?_
  rintro e w1 ⟨g, rfl, hg, hown, hb⟩
  obtain ⟨hc, hf⟩ := bcell hb
  have hz : w.heap.size + 1 + 1 < w1.heap.size := by have := hb.size; simp at this; omega
  have hg3 : w.heap.size + 3 ≤ g := by simp at hg; omega
  have za0 : w1.cell? ⟨w.heap.size + 1, 0, none⟩ = some (Value.int .i64 0) := by rw [hc _ _ (by first | (simp; done) | (simp; omega))]; simp [go_sem]
  have zb0 : w1.cell? ⟨w.heap.size + 1 + 1, 0, none⟩ = some (Value.int .i64 op) := by rw [hc _ _ (by first | (simp; done) | (simp; omega))]; simp [go_sem]
  have fa0 : w1.frozen? ⟨w.heap.size + 1, 0, none⟩ = false := by rw [hf _ _ (by first | (simp; done) | (simp; omega))]; simp [go_sem]
  have fb0 : w1.frozen? ⟨w.heap.size + 1 + 1, 0, none⟩ = false := by rw [hf _ _ (by first | (simp; done) | (simp; omega))]; simp [go_sem]
  have za1 : w1.cell? ⟨w.heap.size + 1, 1, none⟩ = some (Value.int .i64 0) := by rw [hc _ _ (by first | (simp; done) | (simp; omega))]; simp [go_sem]
  have zb1 : w1.cell? ⟨w.heap.size + 1 + 1, 1, none⟩ = some (Value.int .i64 vr) := by rw [hc _ _ (by first | (simp; done) | (simp; omega))]; simp [go_sem]
  have fa1 : w1.frozen? ⟨w.heap.size + 1, 1, none⟩ = false := by rw [hf _ _ (by first | (simp; done) | (simp; omega))]; simp [go_sem]
  have fb1 : w1.frozen? ⟨w.heap.size + 1 + 1, 1, none⟩ = false := by rw [hf _ _ (by first | (simp; done) | (simp; omega))]; simp [go_sem]
  have za2 : w1.cell? ⟨w.heap.size + 1, 2, none⟩ = some (Value.int .i64 0) := by rw [hc _ _ (by first | (simp; done) | (simp; omega))]; simp [go_sem]
  have zb2 : w1.cell? ⟨w.heap.size + 1 + 1, 2, none⟩ = some (Value.int .i64 a) := by rw [hc _ _ (by first | (simp; done) | (simp; omega))]; simp [go_sem]
  have fa2 : w1.frozen? ⟨w.heap.size + 1, 2, none⟩ = false := by rw [hf _ _ (by first | (simp; done) | (simp; omega))]; simp [go_sem]
  have fb2 : w1.frozen? ⟨w.heap.size + 1 + 1, 2, none⟩ = false := by rw [hf _ _ (by first | (simp; done) | (simp; omega))]; simp [go_sem]
  have za3 : w1.cell? ⟨w.heap.size + 1, 3, none⟩ = some (Value.int .i64 0) := by rw [hc _ _ (by first | (simp; done) | (simp; omega))]; simp [go_sem]
  have zb3 : w1.cell? ⟨w.heap.size + 1 + 1, 3, none⟩ = some (Value.int .i64 b) := by rw [hc _ _ (by first | (simp; done) | (simp; omega))]; simp [go_sem]
  have fa3 : w1.frozen? ⟨w.heap.size + 1, 3, none⟩ = false := by rw [hf _ _ (by first | (simp; done) | (simp; omega))]; simp [go_sem]
  have fb3 : w1.frozen? ⟨w.heap.size + 1 + 1, 3, none⟩ = false := by rw [hf _ _ (by first | (simp; done) | (simp; omega))]; simp [go_sem]
  have za4 : w1.cell? ⟨w.heap.size + 1, 4, none⟩ = some (Value.int .i64 0) := by rw [hc _ _ (by first | (simp; done) | (simp; omega))]; simp [go_sem]
  have zb4 : w1.cell? ⟨w.heap.size + 1 + 1, 4, none⟩ = some (Value.int .i64 0) := by rw [hc _ _ (by first | (simp; done) | (simp; omega))]; simp [go_sem]
  have fa4 : w1.frozen? ⟨w.heap.size + 1, 4, none⟩ = false := by rw [hf _ _ (by first | (simp; done) | (simp; omega))]; simp [go_sem]
  have fb4 : w1.frozen? ⟨w.heap.size + 1 + 1, 4, none⟩ = false := by rw [hf _ _ (by first | (simp; done) | (simp; omega))]; simp [go_sem]
  have za5 : w1.cell? ⟨w.heap.size + 1, 5, none⟩ = some (Value.slice none 0 0) := by rw [hc _ _ (by first | (simp; done) | (simp; omega))]; simp [go_sem]
  have zb5 : w1.cell? ⟨w.heap.size + 1 + 1, 5, none⟩ = some (Value.slice none 0 0) := by rw [hc _ _ (by first | (simp; done) | (simp; omega))]; simp [go_sem]
  have fa5 : w1.frozen? ⟨w.heap.size + 1, 5, none⟩ = false := by rw [hf _ _ (by first | (simp; done) | (simp; omega))]; simp [go_sem]
  have fb5 : w1.frozen? ⟨w.heap.size + 1 + 1, 5, none⟩ = false := by rw [hf _ _ (by first | (simp; done) | (simp; omega))]; simp [go_sem]
  have za6 : w1.cell? ⟨w.heap.size + 1, 6, none⟩ = some (Value.slice none 0 0) := by rw [hc _ _ (by first | (simp; done) | (simp; omega))]; simp [go_sem]
  have zb6 : w1.cell? ⟨w.heap.size + 1 + 1, 6, none⟩ = some (Value.slice none 0 0) := by rw [hc _ _ (by first | (simp; done) | (simp; omega))]; simp [go_sem]
  have fa6 : w1.frozen? ⟨w.heap.size + 1, 6, none⟩ = false := by rw [hf _ _ (by first | (simp; done) | (simp; omega))]; simp [go_sem]
  have fb6 : w1.frozen? ⟨w.heap.size + 1 + 1, 6, none⟩ = false := by rw [hf _ _ (by first | (simp; done) | (simp; omega))]; simp [go_sem]
  have zp : w1.cell? ⟨w.heap.size, 6, none⟩ = some (Value.slice ka ks.length c2) := by rw [hc _ _ (by first | (simp; done) | (simp; omega))]; simp [go_sem]
  have HO := kide hown
  have HB := kide (h3.trans (hb.mono h3.size))
  have HR2 := kide hr2
  have hgl : g < w1.heap.size := hown.lt
  clear hown hb hr1 hr2 h3 hg hc hf
  go_wp2_with fail
  refine (toInt64S_any ka c2 ks _ (HR2.out.later ((HB.out.setCell (by simp; omega) _).setCell (by simp; omega) _))).mono ?_
  rintro e w2 ⟨rfl, hown2, hb2⟩
  obtain ⟨hc2, hf2⟩ := bcell hb2
  have hz2 : w1.heap.size ≤ w2.heap.size := by have := hb2.size; simpa using this
  have HO2 := kide (show OwnI w2 w1.heap.size ks by simpa using hown2)
  have HB2 : Hid (Below w.heap.size w w2) := Below.trans ((HB.out.setCell (by simp; omega) _).setCell (by simp; omega) _) (hb2.mono (by simp; omega))
  have HO1 : Hid (Own w2 g ws) := Own.later ((Own.other HO.out (by simp; omega) _).other (by simp; omega) _) hb2 (by simpa using hgl)
  have ya0 : w2.cell? ⟨w.heap.size + 1, 0, none⟩ = some (Value.int .i64 0) := by rw [hc2 _ _ (by first | (simp; done) | (simp; omega))]; simp [go_sem, za0]
  have yb0 : w2.cell? ⟨w.heap.size + 1 + 1, 0, none⟩ = some (Value.int .i64 op) := by rw [hc2 _ _ (by first | (simp; done) | (simp; omega))]; simp [go_sem, zb0, zb1, zb2, zb3, zb4, zb5, zb6, fb0, fb1, fb2, fb3, fb4, fb5, fb6]
  have ga0 : w2.frozen? ⟨w.heap.size + 1, 0, none⟩ = false := by rw [hf2 _ _ (by first | (simp; done) | (simp; omega))]; simp [go_sem, fa0]
  have gb0 : w2.frozen? ⟨w.heap.size + 1 + 1, 0, none⟩ = false := by rw [hf2 _ _ (by first | (simp; done) | (simp; omega))]; simp [go_sem, fb0]
  have ya1 : w2.cell? ⟨w.heap.size + 1, 1, none⟩ = some (Value.int .i64 0) := by rw [hc2 _ _ (by first | (simp; done) | (simp; omega))]; simp [go_sem, za1]
  have yb1 : w2.cell? ⟨w.heap.size + 1 + 1, 1, none⟩ = some (Value.int .i64 vr) := by rw [hc2 _ _ (by first | (simp; done) | (simp; omega))]; simp [go_sem, zb0, zb1, zb2, zb3, zb4, zb5, zb6, fb0, fb1, fb2, fb3, fb4, fb5, fb6]
  have ga1 : w2.frozen? ⟨w.heap.size + 1, 1, none⟩ = false := by rw [hf2 _ _ (by first | (simp; done) | (simp; omega))]; simp [go_sem, fa1]
  have gb1 : w2.frozen? ⟨w.heap.size + 1 + 1, 1, none⟩ = false := by rw [hf2 _ _ (by first | (simp; done) | (simp; omega))]; simp [go_sem, fb1]
  have ya2 : w2.cell? ⟨w.heap.size + 1, 2, none⟩ = some (Value.int .i64 0) := by rw [hc2 _ _ (by first | (simp; done) | (simp; omega))]; simp [go_sem, za2]
  have yb2 : w2.cell? ⟨w.heap.size + 1 + 1, 2, none⟩ = some (Value.int .i64 a) := by rw [hc2 _ _ (by first | (simp; done) | (simp; omega))]; simp [go_sem, zb0, zb1, zb2, zb3, zb4, zb5, zb6, fb0, fb1, fb2, fb3, fb4, fb5, fb6]
  have ga2 : w2.frozen? ⟨w.heap.size + 1, 2, none⟩ = false := by rw [hf2 _ _ (by first | (simp; done) | (simp; omega))]; simp [go_sem, fa2]
  have gb2 : w2.frozen? ⟨w.heap.size + 1 + 1, 2, none⟩ = false := by rw [hf2 _ _ (by first | (simp; done) | (simp; omega))]; simp [go_sem, fb2]
  have ya3 : w2.cell? ⟨w.heap.size + 1, 3, none⟩ = some (Value.int .i64 0) := by rw [hc2 _ _ (by first | (simp; done) | (simp; omega))]; simp [go_sem, za3]
  have yb3 : w2.cell? ⟨w.heap.size + 1 + 1, 3, none⟩ = some (Value.int .i64 b) := by rw [hc2 _ _ (by first | (simp; done) | (simp; omega))]; simp [go_sem, zb0, zb1, zb2, zb3, zb4, zb5, zb6, fb0, fb1, fb2, fb3, fb4, fb5, fb6]
  have ga3 : w2.frozen? ⟨w.heap.size + 1, 3, none⟩ = false := by rw [hf2 _ _ (by first | (simp; done) | (simp; omega))]; simp [go_sem, fa3]
  have gb3 : w2.frozen? ⟨w.heap.size + 1 + 1, 3, none⟩ = false := by rw [hf2 _ _ (by first | (simp; done) | (simp; omega))]; simp [go_sem, fb3]
  have ya4 : w2.cell? ⟨w.heap.size + 1, 4, none⟩ = some (Value.int .i64 0) := by rw [hc2 _ _ (by first | (simp; done) | (simp; omega))]; simp [go_sem, za4]
  have yb4 : w2.cell? ⟨w.heap.size + 1 + 1, 4, none⟩ = some (Value.int .i64 bw) := by rw [hc2 _ _ (by first | (simp; done) | (simp; omega))]; simp [go_sem, zb0, zb1, zb2, zb3, zb4, zb5, zb6, fb0, fb1, fb2, fb3, fb4, fb5, fb6]
  have ga4 : w2.frozen? ⟨w.heap.size + 1, 4, none⟩ = false := by rw [hf2 _ _ (by first | (simp; done) | (simp; omega))]; simp [go_sem, fa4]
  have gb4 : w2.frozen? ⟨w.heap.size + 1 + 1, 4, none⟩ = false := by rw [hf2 _ _ (by first | (simp; done) | (simp; omega))]; simp [go_sem, fb4]
  have ya5 : w2.cell? ⟨w.heap.size + 1, 5, none⟩ = some (Value.slice none 0 0) := by rw [hc2 _ _ (by first | (simp; done) | (simp; omega))]; simp [go_sem, za5]
  have yb5 : w2.cell? ⟨w.heap.size + 1 + 1, 5, none⟩ = some (Value.slice (some ⟨g, 0, none⟩) ws.length ws.length) := by rw [hc2 _ _ (by first | (simp; done) | (simp; omega))]; simp [go_sem, zb0, zb1, zb2, zb3, zb4, zb5, zb6, fb0, fb1, fb2, fb3, fb4, fb5, fb6]
  have ga5 : w2.frozen? ⟨w.heap.size + 1, 5, none⟩ = false := by rw [hf2 _ _ (by first | (simp; done) | (simp; omega))]; simp [go_sem, fa5]
  have gb5 : w2.frozen? ⟨w.heap.size + 1 + 1, 5, none⟩ = false := by rw [hf2 _ _ (by first | (simp; done) | (simp; omega))]; simp [go_sem, fb5]
  have ya6 : w2.cell? ⟨w.heap.size + 1, 6, none⟩ = some (Value.slice none 0 0) := by rw [hc2 _ _ (by first | (simp; done) | (simp; omega))]; simp [go_sem, za6]
  have yb6 : w2.cell? ⟨w.heap.size + 1 + 1, 6, none⟩ = some (Value.slice none 0 0) := by rw [hc2 _ _ (by first | (simp; done) | (simp; omega))]; simp [go_sem, zb0, zb1, zb2, zb3, zb4, zb5, zb6, fb0, fb1, fb2, fb3, fb4, fb5, fb6]
  have ga6 : w2.frozen? ⟨w.heap.size + 1, 6, none⟩ = false := by rw [hf2 _ _ (by first | (simp; done) | (simp; omega))]; simp [go_sem, fa6]
  have gb6 : w2.frozen? ⟨w.heap.size + 1 + 1, 6, none⟩ = false := by rw [hf2 _ _ (by first | (simp; done) | (simp; omega))]; simp [go_sem, fb6]
  clear hown2 hb2 HO HB HR2 hc2 hf2 zp za0 zb0 fa0 fb0 za1 zb1 fa1 fb1 za2 zb2 fa2 fb2 za3 zb3 fa3 fb3 za4 zb4 fa4 fb4 za5 zb5 fa5 fb5 za6 zb6 fa6 fb6
  go_wp2_with fail
  refine bodyPost_ret (v := .agg #[.int .i64 op, .int .i64 vr, .int .i64 a, .int .i64 b, .int .i64 bw, .slice (some ⟨g, 0, none⟩) ws.length ws.length, .slice (some ⟨w1.heap.size, 0, none⟩) ks.length ks.length]) (by simp [results, Tryd.results33, go_sem, ya0, yb0, ya1, yb1, ya2, yb2, ya3, yb3, ya4, yb4, ya5, yb5, ya6, yb6]) rfl ⟨g, w1.heap.size, rfl, by omega, by omega, ?_, ?_, ?_⟩
  · repeat (refine Own.other ?_ (by simp; omega) _)
    exact HO1.out
  · repeat (refine OwnI.other ?_ (by simp; omega) _)
    exact HO2.out
  · repeat (refine Below.setCell ?_ (by simp <;> omega) _)
    exact HB2.out

end Go.Proofs.YteenmffhbgpahaaDoor
