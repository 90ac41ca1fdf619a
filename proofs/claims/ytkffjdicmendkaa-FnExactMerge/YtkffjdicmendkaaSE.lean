/- Values copied. -/
import Derived.Test.YtkffjdicmendkaaSD
import Derived.Test.YtkffjdicmendkaaSC
import Derived.Handy
namespace Go.Proofs.Ytkffjdicmendkaa
set_option linter.unusedVariables false
set_option linter.unusedSimpArgs false
open Go.RowKit

/-- A row of words of one's own, each in memory of its own. -/
structure Bs (w : World) (B : Nat) (v : Value) (l : List Bw) : Prop where
  row : OB2 w B v l
  nw : ∀ x ∈ l, Nw w B x.a x.ws
  dj : DjB l

theorem Bs.later {w w' : World} {B : Nat} {v : Value} {l : List Bw} (h : Bs w B v l) (hb : Below w.heap.size w w') : Bs w' B v l := ⟨h.row.later hb, fun x hx => (h.nw x hx).later hb, h.dj⟩
theorem Bs.nil (w : World) (B : Nat) : Bs w B (.slice none 0 0) [] := ⟨OB2.nil w B, by simp, DjB.nil⟩
theorem Bs.form {w : World} {B : Nat} {v : Value} {l : List Bw} (h : Bs w B v l) : ∃ a c, v = .slice a l.length c := h.row.form
/-- Words stay where the row of them grows. -/
theorem nw_row {w w' : World} {B C : Nat} {v : Value} {l : List Bw} {a : Option Addr} {xs : List Nat} (h : Nw w C a xs) (ho : OB2 w B v l) (hg : w.grownBy w' v.ownBlock) : Nw w' C a xs :=
  h.kept fun k cur hc => hg.block k (lt_of_block hc) (fun e => by
    obtain ⟨cur', h'⟩ := ho.typed e.symm
    rw [hc] at h'
    cases h')
theorem Bs.app {w w1 w2 : World} {B : Nat} {v v' : Value} {l : List Bw} {y : Bw} (h : Bs w B v l) (hb : Below w.heap.size w w1) (hB : B ≤ w.heap.size) (hy : Nw w1 w.heap.size y.a y.ws) (hg : w1.grownBy w2 v.ownBlock) (ho : OB2 w2 B v' (l ++ [y])) : Bs w2 B v' (l ++ [y]) where
  row := ho
  nw := fun x hx => by
    rcases List.mem_append.1 hx with hx | hx
    · exact nw_row ((h.nw x hx).later hb) (h.row.later hb) hg
    · simp at hx
      subst hx
      exact (nw_row hy (h.row.later hb) hg).mono hB
  dj := h.dj.snoc h.nw fun p hp => (nw_lt hy hp).1

/-- What a call tells that has made a row of words. -/
def RetBs (w : World) (X : List (Int × List Nat)) (e : Ending) (w' : World) : Prop := ∃ v l, e = .returned v ∧ Bs w' w.heap.size v l ∧ l.map Bw.ct = X ∧ Below w.heap.size w w'

theorem copyValues_any (a : Option Addr) (c n : Nat) (xs : List Bw) (w : World) (hr : RdW w a xs) (hn : xs.length = n) (hne : ∀ x ∈ xs, 0 < x.ws.length) :
    Calls Try.prog 52 #[.slice a n c] w (RetBs w (xs.map Bw.ct)) := by
  have hlen := hr.1
  rw [hn] at hlen
  have HN := kide hn
  have HNE := kide hne
  clear hn hne
  go_enter Try.func52, Try.ntmps52
  go_wp2_with fail
  go_loopw [3, 8] (fun v q wr => ∃ (k : Nat) (l : List Bw), k ≤ n ∧ q = .int .i64 (k : Int) ∧ Bs wr w.heap.size v l ∧ l.map Bw.ct = (xs.take k).map Bw.ct ∧ Below w.heap.size w wr) (fun _ q _ => n - (intOf q).toNat)
  case atStart => exact ⟨0, [], Nat.zero_le _, rfl, Bs.nil _ _, rfl, Below.refl _ _⟩
  case round =>
    rename_i v3
    obtain ⟨k, l, hk, rfl, hbs, hct, hbel⟩ := hrel
    have HB := kide hbel
    have HBS := kide hbs
    have HCT := kide hct
    by_cases hlt : k < n
    · obtain ⟨-, h | ⟨b, o, rfl, hc⟩⟩ := hr.later hbel
      · have := HN.out; subst h; simp at this; omega
      obtain ⟨x, gx⟩ : ∃ y, xs[k]? = some y := ⟨xs[k]'(by rw [HN.out]; exact hlt), List.getElem?_eq_getElem _⟩
      obtain ⟨p0, p1, p2, p3⟩ := hc k x gx
      have hx0 := HNE.out x (List.mem_of_getElem? gx)
      have GX := kide gx
      obtain ⟨wd, xa, xc, ws⟩ := x
      simp only [] at p0 p1 p2 p3 hx0
      obtain ⟨-, -, h | ⟨xb, xo, rfl, -⟩⟩ := id p2
      · rw [h] at hx0; simp at hx0
      have i0 : (k : Int) < (n : Int) := by omega
      have P2 := kide p2
      obtain ⟨m, hm⟩ : ∃ m, ws.length = m := ⟨_, rfl⟩
      rw [hm] at p1
      have HM := kide hm
      have lb := block_lt_of_cell p0
      clear hc gx p2 hbs hct hbel hm
      go_wp2_with fail
      have hba : Below wr.heap.size wr (wr.alloc (Obj.cells #[Value.int .i64 wd, Value.slice (some ⟨xb, xo, none⟩) m xc] 58)) := (Below.refl _ _).alloc (Nat.le_refl _) _
      refine Calls.mono (copyG wd xb xo xc m ws _ (P2.out.later hba) HM.out) ?_
      rintro e w1 ⟨a2, c2, rfl, hn2, hb2⟩
      have HW1 := kide (hba.trans (hb2.mono hba.size))
      have HN2 := kide (hn2.mono hba.size)
      clear hn2 hb2 hba
      have hb3 : Below w1.heap.size w1 (w1.alloc (Obj.cells #[Value.int .i64 wd, Value.slice a2 m c2] 58)) := (Below.refl _ _).alloc (Nat.le_refl _) _
      have q0 : (w1.alloc (Obj.cells #[Value.int .i64 wd, Value.slice a2 m c2] 58)).cell? ⟨w1.heap.size, 0, none⟩ = some (.int .i64 wd) := by simp
      have q1 : (w1.alloc (Obj.cells #[Value.int .i64 wd, Value.slice a2 m c2] 58)).cell? ⟨w1.heap.size, 1, none⟩ = some (.slice a2 m c2) := by simp
      have HW3 := kide (HW1.out.trans (hb3.mono HW1.out.size))
      have HN3 := kide (HN2.out.later hb3)
      have hll : l.length ≤ 1073741824 := by
        have h := congrArg List.length HCT.out
        simp at h
        omega
      go_wp2_with (at_builtin; refine wpList_appB2 rfl _ _ rfl w.heap.size u3 l ⟨wd, a2, c2, ws⟩ (by first | rfl | simp [Act.eval]) (HBS.out.row.later HW3.out) w1.heap.size 1 (by first | rfl | simp [Act.eval]) q0 (by rw [HM.out]; exact q1) hll (Nat.le_trans HB.out.size HW3.out.size) ?_)
      intro g cap w4 ho4 hg4
      have HBS4 := kide (HBS.out.app HW3.out HB.out.size (y := ⟨wd, a2, c2, ws⟩) HN3.out hg4 ho4)
      have HB4 : Hid (Below w.heap.size w w4) := Below.grown (HB.out.trans (HW3.out.mono HB.out.size)) hg4 (Nat.le_trans HB.out.size HW3.out.size) (fun j hj => (HBS.out.row.lt hj).1)
      clear ho4 hg4 q0 q1 hb3
      go_wp2_with fail
      go_roundw
      case rel =>
        refine ⟨k + 1, l ++ [⟨wd, a2, c2, ws⟩], by omega, by go_num, ?_, ?_, HB4.out⟩
        · exact HBS4.out
        · rw [List.map_append, HCT.out, List.take_add_one, GX.out, List.map_append]
          rfl
      case measure => simp [intOf]; omega
    · have hkn : k = n := by omega
      have HE : Hid (l.map Bw.ct = xs.map Bw.ct) := by
        show _ = _
        rw [hct, hkn, ← HN.out, List.take_length]
      clear hbs hct hbel
      go_wp2_with fail
      go_ret
      exact ⟨_, l, rfl, HBS.out, HE.out, HB.out⟩

end Go.Proofs.Ytkffjdicmendkaa
