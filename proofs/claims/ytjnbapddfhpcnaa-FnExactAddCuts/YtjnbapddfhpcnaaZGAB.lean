/- Several texts in one. -/
import Derived.Test.YtjnbapddfhpcnaaA
import Derived.Test.YtjnbapddfhpcnaaB
import Derived.Test.YtjnbapddfhpcnaaZGAA
import Derived.WalkKit
import Derived.WalkSpells
import Derived.Deep.QuietTactic
import Derived.BigQuiet
import Derived.Outline
import Derived.WalkSmall
import Derived.Deep.OwnRows

/- What the two BitsOk answer: both say just of right rows that they are right. -/
namespace Go.Proofs.Ytjnbapddfhpcnaa
set_option linter.unusedVariables false
set_option linter.unusedSimpArgs false
open Go.RowKit

theorem decide_wOk (W : Int) : decide (1 ≤ W ∧ W ≤ 4096) = wOk W := rfl

theorem ret_bool {a b : Bool} (h : a = b) : Ending.returned (.bool a) = .returned (.bool b) := by rw [h]
theorem ret_int {k : IntKind} {a b : Int} (h : a = b) : Ending.returned (.int k a) = .returned (.int k b) := by rw [h]



end Go.Proofs.Ytjnbapddfhpcnaa

/- Contracts of the laws' own small functions on rows of whole numbers: how long, copied, compared. -/
namespace Go.Proofs.Ytjnbapddfhpcnaa
set_option linter.unusedVariables false
set_option linter.unusedSimpArgs false
open Go.RowKit

theorem Try.infoI64 : (Try.prog.info? 2).map (fun i => (i.zero, i.size, i.bytes)) = some (some (.int .i64 0), 1, 8) := by kernel_rfl


/-- A slice whose numbers are ks, wherever it lies. -/
def RdI (w : World) (a : Option Addr) (ks : List Int) : Prop :=
  ks.length ≤ 1048576 ∧ (∀ k ∈ ks, in64 k) ∧ (ks = [] ∨ ∃ b o, a = some ⟨b, o, none⟩ ∧ ∀ i, i < ks.length → w.cell? ⟨b, o + i, none⟩ = some (.int .i64 (ks.getD i 0)))

theorem RdI.later {w w' : World} {a : Option Addr} {ks : List Int} (h : RdI w a ks) (hb : Below w.heap.size w w') : RdI w' a ks := by
  obtain ⟨h1, h2, h3⟩ := h
  refine ⟨h1, h2, ?_⟩
  rcases h3 with h3 | ⟨b, o, rfl, hc⟩
  · exact .inl h3
  · refine .inr ⟨b, o, rfl, fun i hi => ?_⟩
    have := hc i hi
    rw [hb.cell (p := ⟨b, o + i, none⟩) (by exact block_lt_of_cell this)]
    exact this

def i64s (ks : List Int) : Array Value := (ks.map fun (k : Int) => Value.int .i64 k).toArray

theorem i64s_size (ks : List Int) : (i64s ks).size = ks.length := by simp [i64s]
theorem i64s_get (ks : List Int) (i : Nat) (h : i < ks.length) : (i64s ks)[i]? = some (.int .i64 (ks.getD i 0)) := by simp [i64s, List.getD, h]
theorem i64s_set (ks : List Int) (i : Nat) (k : Int) : (i64s ks).setIfInBounds i (.int .i64 k) = i64s (ks.set i k) := by
  simp [i64s, List.setIfInBounds_toArray, List.map_set]
theorem i64s_made (n : Nat) : madeCells #[Value.int .i64 0] n = i64s (List.replicate n 0) := by
  apply Array.toList_inj.1
  rw [toList_madeCells_one]
  simp [i64s]

/-- The block g holds just the numbers ks, and may be written. -/
def OwnI (w : World) (g : Nat) (ks : List Int) : Prop := w.heap[g]? = some (.cells (i64s ks) 2 (0, 0))

theorem OwnI.cell {w : World} {g : Nat} {ks : List Int} (h : OwnI w g ks) {i : Nat} (hi : i < ks.length) : w.cell? ⟨g, i, none⟩ = some (.int .i64 (ks.getD i 0)) := by
  rw [cell_of_row w g i _ _ _ h, i64s_get _ _ hi]
theorem OwnI.free {w : World} {g : Nat} {ks : List Int} (h : OwnI w g ks) (i : Nat) : w.frozen? ⟨g, i, none⟩ = false := frozen_of_row w g i _ _ h
theorem OwnI.lt {w : World} {g : Nat} {ks : List Int} (h : OwnI w g ks) : g < w.heap.size := lt_of_block h
theorem OwnI.put {w : World} {g : Nat} {ks : List Int} (h : OwnI w g ks) (i : Nat) (k : Int) : OwnI (w.setCell ⟨g, i, none⟩ (.int .i64 k)) g (ks.set i k) := by
  unfold OwnI
  rw [heap_setCell_same w g i _ _ _ h, i64s_set]
theorem OwnI.rd {w : World} {g : Nat} {ks : List Int} (h : OwnI w g ks) (hl : ks.length ≤ 1048576) (hx : ∀ k ∈ ks, in64 k) : RdI w (some ⟨g, 0, none⟩) ks :=
  ⟨hl, hx, .inr ⟨g, 0, rfl, fun i hi => by rw [Nat.zero_add]; exact h.cell hi⟩⟩
theorem OwnI.later {w w' : World} {g B : Nat} {ks : List Int} (h : OwnI w g ks) (hb : Below B w w') (hg : g < B) : OwnI w' g ks := by
  unfold OwnI
  rw [hb.block g hg]; exact h
theorem OwnI.other {w : World} {g : Nat} {ks : List Int} (h : OwnI w g ks) {a : Addr} (ha : g ≠ a.block) (v : Value) : OwnI (w.setCell a v) g ks := by
  unfold OwnI
  rw [heap_setCell_other w a g v ha]; exact h

theorem szInt64S_any (a : Option Addr) (n c : Nat) (L : Int) (w : World) (hL : 0 ≤ L) (hL2 : L ≤ 1048576) (hn : n ≤ 9223372036854775807) :
    Calls Try.prog 30 #[.slice a n c, .int .i64 L] w fun e w' => e = .returned (.int .i64 (if (n : Int) ≤ L then L - n else -1)) ∧ w' = w := by
  by_cases h : (n : Int) ≤ L
  · rw [if_pos h]
    go_enter Try.func30, Try.ntmps30
    go_wp2
    go_ret
    exact ⟨rfl, rfl⟩
  · rw [if_neg h]
    go_enter Try.func30, Try.ntmps30
    go_wp2
    go_ret
    exact ⟨rfl, rfl⟩

theorem take_setI (xs : List Int) (k : Nat) (h : k < xs.length) :
    (xs.take k ++ List.replicate (xs.length - k) 0).set k (xs.getD k 0) = xs.take (k + 1) ++ List.replicate (xs.length - (k + 1)) 0 := by
  apply List.ext_getElem?
  intro i
  simp only [List.getElem?_set, List.getElem?_append, List.getElem?_take, List.length_take, List.getElem?_replicate, List.length_append, List.length_replicate, List.getD]
  split <;> split <;> split <;> (try split) <;> (try split) <;> (try omega) <;> simp_all <;> (try omega)

theorem toInt64S_any (a : Option Addr) (c : Nat) (xs : List Int) (w : World) (hr : RdI w a xs) :
    Calls Try.prog 33 #[.slice a xs.length c] w fun e w' => e = .returned (.slice (some ⟨w.heap.size, 0, none⟩) xs.length xs.length) ∧ OwnI w' w.heap.size xs ∧ Below w.heap.size w w' := by
  have hlen := hr.1
  have hmk := fun kl kc w => run_make_row' (P := Try.prog) 46 2 (.int .i64 0) 8 Try.underlying46 Try.infoI64 rfl kl kc xs.length (by omega) (by omega) w
  go_enter Try.func33, Try.ntmps33
  go_wp2
  go_loopw [4] (fun i wr => ∃ k : Nat, k ≤ xs.length ∧ i = .int .i64 k ∧ OwnI wr w.heap.size (xs.take k ++ List.replicate (xs.length - k) 0) ∧ Below w.heap.size w wr) (fun i _ => xs.length - (intOf i).toNat)
  case atStart =>
    refine ⟨0, Nat.zero_le _, rfl, ?_, (Below.refl _ _).alloc (Nat.le_refl _) _⟩
    unfold OwnI
    rw [heap_alloc_new, i64s_made]
    rfl
  case round =>
    obtain ⟨k, hk, rfl, hown, hbel⟩ := hrel
    by_cases hlt : k < xs.length
    · obtain ⟨-, -, h | ⟨b, o, rfl, hc⟩⟩ := hr
      · subst h; simp at hlt
      have hcell := hc k hlt
      have hb : b < w.heap.size := block_lt_of_cell hcell
      have hcw : wr.cell? ⟨b, o + k, none⟩ = some (.int .i64 (xs.getD k 0)) := by rw [hbel.cell (by exact hb)]; exact hcell
      have hcg := hown.cell (i := k) (by simp; omega)
      have hfg := hown.free k
      have HO := show Hid _ from hown.put k (xs.getD k 0)
      have HB := show Hid _ from hbel
      generalize (xs.take k ++ List.replicate (xs.length - k) 0).getD k 0 = z at hcg
      have HT := show Hid _ from take_setI xs k hlt
      clear hc hcell hown hbel hmk
      generalize xs.getD k 0 = y at *
      go_wp2
      go_roundw
      case rel =>
        have h := HO.out
        rw [HT.out] at h
        exact ⟨k + 1, by omega, by go_num, h, HB.out.setCell (Nat.le_refl _) _⟩
      case measure => simp [intOf]; omega
    · clear hmk
      go_wp2
      go_ret
      refine ⟨rfl, ?_, hbel⟩
      have e : k = xs.length := by omega
      rw [e] at hown
      simpa using hown

theorem eqInt64S_any (a b : Option Addr) (c d : Nat) (xs ys : List Int) (w : World) (hr : RdI w a xs) (hs : RdI w b ys) :
    Calls Try.prog 39 #[.slice a xs.length c, .slice b ys.length d] w fun e w' => e = .returned (.bool (decide (xs = ys))) ∧ Below w.heap.size w w' := by
  have hl1 := hr.1
  have hl2 := hs.1
  by_cases hl : xs.length = ys.length
  · have hne : ((xs.length : Int) != (ys.length : Int)) = false := by simp [hl]
    have HL : Hid (xs.length = ys.length) := hl
    clear hl
    go_enter Try.func39, Try.ntmps39
    go_wp2
    clear hne
    go_loopw [5] (fun i wr => ∃ k : Nat, k ≤ xs.length ∧ i = .int .i64 k ∧ (∀ j, j < k → xs.getD j 0 = ys.getD j 0) ∧ Below w.heap.size w wr) (fun i _ => xs.length - (intOf i).toNat)
    case atStart => exact ⟨0, Nat.zero_le _, rfl, fun j h => by omega, Below.refl _ _⟩
    case round =>
      obtain ⟨k, hk, rfl, hz, hbel⟩ := hrel
      have HZ := show Hid _ from hz
      have HB := show Hid _ from hbel
      by_cases hlt : k < xs.length
      · obtain ⟨-, -, h | ⟨b1, o1, rfl, hc1⟩⟩ := hr
        · subst h; simp at hlt
        have hlt2 : k < ys.length := by have := HL.out; omega
        obtain ⟨-, -, h | ⟨b2, o2, rfl, hc2⟩⟩ := hs
        · subst h; simp at hlt2
        have e1 := hc1 k hlt
        have e2 := hc2 k hlt2
        have f1 : wr.cell? ⟨b1, o1 + k, none⟩ = some (.int .i64 (xs.getD k 0)) := by rw [hbel.cell (by exact block_lt_of_cell e1)]; exact e1
        have f2 : wr.cell? ⟨b2, o2 + k, none⟩ = some (.int .i64 (ys.getD k 0)) := by rw [hbel.cell (by exact block_lt_of_cell e2)]; exact e2
        have hxe : decide (xs = ys) = false ∨ xs.getD k 0 = ys.getD k 0 := by
          by_cases h : xs = ys
          · exact .inr (by rw [h])
          · exact .inl (by simp [h])
        clear hc1 hc2 hz hbel e1 e2
        have i0 : (k : Int) < (xs.length : Int) := by omega
        have i1 : (k : Int) < (ys.length : Int) := by omega
        generalize hx1 : xs.getD k 0 = x1 at *
        generalize hy1 : ys.getD k 0 = y1 at *
        have HX : Hid (xs.getD k 0 = x1) := hx1
        have HY : Hid (ys.getD k 0 = y1) := hy1
        clear hx1 hy1
        by_cases hxy : x1 = y1
        · have hb : (x1 != y1) = false := by simp [hxy]
          have HE : Hid (x1 = y1) := hxy
          clear hxe hxy
          go_wp2_with fail
          go_quiet (fail)
          go_wp2
          go_roundw
          case rel =>
            refine ⟨k + 1, by omega, by go_num, fun j hj => ?_, below_drewN HB.out _⟩
            by_cases hj' : j = k
            · rw [hj', HX.out, HY.out]; exact HE.out
            · exact HZ.out j (by omega)
          case measure => simp [intOf]; omega
        · have hb : (x1 != y1) = true := by simpa using hxy
          have HE : Hid (decide (xs = ys) = false) := by
            rcases hxe with h | h
            · exact h
            · exact absurd h hxy
          clear hxe hxy
          go_wp2_with fail
          go_quiet (fail)
          go_wp2
          go_ret
          exact ⟨ret_bool HE.out.symm, below_drewN HB.out _⟩
      · clear hz hbel
        go_wp2
        go_ret
        refine ⟨ret_bool ?_, HB.out⟩
        have he : xs = ys := by
          refine List.ext_getElem HL.out fun j h1 h2 => ?_
          have := HZ.out j (by omega)
          simpa [List.getD, h1, h2] using this
        simp [he]
  · have hne : ((xs.length : Int) != (ys.length : Int)) = true := by simp; omega
    have hx : xs ≠ ys := fun h => hl (by rw [h])
    go_enter Try.func39, Try.ntmps39
    go_wp2
    go_ret
    exact ⟨ret_bool (by simp [hx]), Below.refl _ _⟩

end Go.Proofs.Ytjnbapddfhpcnaa

/- Contracts of the laws' own small functions on rows of words: how long, copied, compared, marked, held. -/
namespace Go.Proofs.Ytjnbapddfhpcnaa
set_option linter.unusedVariables false
set_option linter.unusedSimpArgs false
open Go.RowKit

theorem Try.infoU64 : (Try.prog.info? 101).map (fun i => (i.zero, i.size, i.bytes)) = some (some (.int .u64 0), 1, 8) := by kernel_rfl

def u64s (xs : List Nat) : Array Value := (xs.map fun (x : Nat) => Value.int .u64 (x : Int)).toArray

theorem u64s_size (xs : List Nat) : (u64s xs).size = xs.length := by simp [u64s]
theorem u64s_get (xs : List Nat) (i : Nat) (h : i < xs.length) : (u64s xs)[i]? = some (.int .u64 ((xs.getD i 0 : Nat) : Int)) := by simp [u64s, List.getD, h]
theorem u64s_set (xs : List Nat) (i x : Nat) : (u64s xs).setIfInBounds i (.int .u64 (x : Int)) = u64s (xs.set i x) := by
  simp [u64s, List.setIfInBounds_toArray, List.map_set]
theorem u64s_made (n : Nat) : madeCells #[Value.int .u64 0] n = u64s (List.replicate n 0) := by
  apply Array.toList_inj.1
  rw [toList_madeCells_one]
  simp [u64s]

/-- The block g holds just the words xs, and may be written. -/
def Own (w : World) (g : Nat) (xs : List Nat) : Prop := w.heap[g]? = some (.cells (u64s xs) 101 (0, 0))

theorem Own.cell {w : World} {g : Nat} {xs : List Nat} (h : Own w g xs) {i : Nat} (hi : i < xs.length) : w.cell? ⟨g, i, none⟩ = some (.int .u64 ((xs.getD i 0 : Nat) : Int)) := by
  rw [cell_of_row w g i _ _ _ h, u64s_get _ _ hi]
theorem Own.free {w : World} {g : Nat} {xs : List Nat} (h : Own w g xs) (i : Nat) : w.frozen? ⟨g, i, none⟩ = false := frozen_of_row w g i _ _ h
theorem Own.lt {w : World} {g : Nat} {xs : List Nat} (h : Own w g xs) : g < w.heap.size := lt_of_block h
theorem Own.put {w : World} {g : Nat} {xs : List Nat} (h : Own w g xs) (i x : Nat) : Own (w.setCell ⟨g, i, none⟩ (.int .u64 (x : Int))) g (xs.set i x) := by
  unfold Own
  rw [heap_setCell_same w g i _ _ _ h, u64s_set]
theorem Own.rd {w : World} {g : Nat} {xs : List Nat} (h : Own w g xs) (hl : xs.length ≤ 1048576) (hx : ∀ x ∈ xs, x < 18446744073709551616) : Rd w (some ⟨g, 0, none⟩) xs :=
  ⟨hl, hx, .inr ⟨g, 0, rfl, fun i hi => by rw [Nat.zero_add]; exact h.cell hi⟩⟩
theorem Own.later {w w' : World} {g B : Nat} {xs : List Nat} (h : Own w g xs) (hb : Below B w w') (hg : g < B) : Own w' g xs := by
  unfold Own
  rw [hb.block g hg]; exact h




theorem take_set (xs : List Nat) (k : Nat) (h : k < xs.length) :
    (xs.take k ++ List.replicate (xs.length - k) 0).set k (xs.getD k 0) = xs.take (k + 1) ++ List.replicate (xs.length - (k + 1)) 0 := by
  apply List.ext_getElem?
  intro i
  simp only [List.getElem?_set, List.getElem?_append, List.getElem?_take, List.length_take, List.getElem?_replicate, List.length_append, List.length_replicate, List.getD]
  split <;> split <;> split <;> (try split) <;> (try split) <;> (try omega) <;> simp_all <;> (try omega)


end Go.Proofs.Ytjnbapddfhpcnaa

/- Contracts of toBits and eqBits of the laws. -/
namespace Go.Proofs.Ytjnbapddfhpcnaa
set_option linter.unusedVariables false
set_option linter.unusedSimpArgs false
open Go.RowKit

/-- What was laid when a call began still stands. -/
def St (w : World) (bx : Obj) (wk : World) : Prop := Below (w.heap.size + 1) (w.alloc bx) wk

theorem St.start (w : World) (bx : Obj) : St w bx (w.alloc bx) := Below.refl _ _
theorem St.size {w wk : World} {bx : Obj} (h : St w bx wk) : w.heap.size < wk.heap.size := by
  have := Below.size h
  simp at this; omega
theorem St.next {w wk w1 : World} {bx : Obj} (h : St w bx wk) (hb : Below wk.heap.size wk w1) : St w bx w1 := Below.trans h (hb.mono (by have := h.size; omega))
theorem St.next' {w wk w1 : World} {bx : Obj} {B : Nat} (h : St w bx wk) (hb : Below B wk w1) (hB : w.heap.size < B) : St w bx w1 := Below.trans h (hb.mono hB)
theorem St.cell {w wk : World} {cs : Array Value} {t : TypeId} (h : St w (.cells cs t) wk) (i : Nat) : wk.cell? ⟨w.heap.size, i, none⟩ = cs[i]? := by
  rw [Below.cell h (p := ⟨w.heap.size, i, none⟩) (by simp)]; simp
theorem St.two {w wk : World} {x y : Value} {t : TypeId} (h : St w (.cells #[x, y] t) wk) : wk.cell? ⟨w.heap.size, 0, none⟩ = some x ∧ wk.cell? ⟨w.heap.size, 1, none⟩ = some y :=
  ⟨h.cell 0, h.cell 1⟩
theorem St.below {w wk : World} {bx : Obj} (h : St w bx wk) : Below w.heap.size w wk := ((Below.refl _ _).alloc (Nat.le_refl _) _).trans (Below.mono h (Nat.le_succ _))
theorem St.rd {w wk : World} {bx : Obj} (h : St w bx wk) {a : Option Addr} {xs : List Nat} (hr : Rd w a xs) : Rd wk a xs := hr.later h.below

theorem undrew {B : Nat} {w w' : World} (h : Below B w.drew w') : Below B w w' := ⟨h.os, h.tape, h.output, h.size, h.block⟩

/-- Behind a call that lets all old blocks be: all old cells read as before, and may be written as before. -/
theorem bcell {W w1 : World} (hb : Below W.heap.size W w1) : (∀ b o, b < W.heap.size → w1.cell? ⟨b, o, none⟩ = W.cell? ⟨b, o, none⟩) ∧ (∀ b o, b < W.heap.size → w1.frozen? ⟨b, o, none⟩ = W.frozen? ⟨b, o, none⟩) :=
  ⟨fun b o h => hb.cell (p := ⟨b, o, none⟩) h, fun b o h => hb.frozen (p := ⟨b, o, none⟩) h⟩

theorem Own.other {w : World} {g : Nat} {xs : List Nat} (h : Own w g xs) {a : Addr} (ha : g ≠ a.block) (v : Value) : Own (w.setCell a v) g xs := by
  unfold Own
  rw [heap_setCell_other w a g v ha]; exact h




end Go.Proofs.Ytjnbapddfhpcnaa
