/- A strings.Builder of the call's own: what copyCheck, WriteString and WriteByte do to it, and what they leave alone. -/
import Derived.Test.YteainbakfeedpaaUC
import Derived.Lib.Builder
import Derived.Lib.UnsafeStr
import Derived.Laws.Externs
namespace Go.Proofs.Yteainbakfeedpaa
set_option linter.unusedVariables false
set_option linter.unusedSimpArgs false
open Go.RowKit

theorem bSize : (Try.prog.info? 47).map TypeInfo.size = some 2 := by kernel_rfl
theorem bLies : liesAt Try.prog Try.prog.depth 47 (2 / Try.prog.cellsOf 47) 0 47 1 = true := by kernel_rfl

set_option maxHeartbeats 1000000 in
set_option maxRecDepth 100000 in
theorem check_used (b : Nat) (w : World) (h0 : w.cell? ⟨b, 0, none⟩ = some (.pointer (some ⟨b, 0, none⟩))) :
    Calls Try.prog 73 #[.pointer (some ⟨b, 0, none⟩)] w fun e w' => e = .returned (.tuple #[]) ∧ w' = w := by
  obtain ⟨j, hj, hjs⟩ := Option.map_eq_some_iff.1 bSize
  go_enter Try.func73, Try.ntmps73
  go_wp2
  rw [Lib.run_neq_ptr_same w _ Try.underlying45 hj]
  go_wp2
  go_end0
  exact ⟨rfl, rfl⟩

set_option maxHeartbeats 1000000 in
set_option maxRecDepth 100000 in
theorem check_fresh (b : Nat) (w : World) (h0 : w.cell? ⟨b, 0, none⟩ = some (.pointer none)) (hsh : w.shape? b = some (47, 2)) (hfz : w.frozen? ⟨b, 0, none⟩ = false) :
    Calls Try.prog 73 #[.pointer (some ⟨b, 0, none⟩)] w fun e w' => e = .returned (.tuple #[]) ∧ w' = w.setCell ⟨b, 0, none⟩ (.pointer (some ⟨b, 0, none⟩)) := by
  obtain ⟨j, hj, hjs⟩ := Option.map_eq_some_iff.1 bSize
  go_enter Try.func73, Try.ntmps73
  go_wp2
  rw [Lib.run_to_unsafe w ⟨b, 0, none⟩ Try.underlying45 Try.underlying118 hj (by rw [hjs]; decide) hsh (Nat.zero_lt_succ 1)]
  simp only [Result.andThen]
  rw [Oper.upon_value]
  go_wp2
  rw [run_callFunc_extern Try.func81 (by kernel_rfl) (by kernel_rfl) (by kernel_rfl) (e := Extern.AbiNoEscape.same) (by kernel_rfl), Lib.run_noEscape]
  simp only [Result.andThen]
  rw [Oper.upon_value]
  go_wp2
  rw [Lib.run_from_unsafe w ⟨b, 0, none⟩ Try.underlying118 Try.underlying45 hj hsh bLies]
  simp only [Result.andThen]
  rw [Oper.upon_value]
  go_wp2
  go_end0
  exact ⟨rfl, rfl⟩

/-- A builder of the call's own, fresh or used, that holds the bytes l. -/
def Bd (B b : Nat) (l : List Nat) (w : World) : Prop :=
  B ≤ b ∧ B ≤ w.heap.size ∧ ∃ q v, (q = none ∨ q = some ⟨b, 0, none⟩) ∧ w.heap[b]? = some (.cells #[.pointer q, v] 47 (0, 0)) ∧ OwB w B v l

/-- The block of a row of bytes is no builder's. -/
theorem OwB.ne {w : World} {B b : Nat} {v : Value} {l : List Nat} {x y : Value} (h : OwB w B v l) (hb : w.heap[b]? = some (.cells #[x, y] 47 (0, 0))) : some b ≠ v.ownBlock := fun e => by
  obtain ⟨-, cs, fr, h2⟩ := owns_block' h e.symm
  rw [hb] at h2
  cases h2

theorem OwB.set {w : World} {B b i : Nat} {v u : Value} {l : List Nat} {x y : Value} (h : OwB w B v l) (hb : w.heap[b]? = some (.cells #[x, y] 47 (0, 0))) : OwB (w.setCell ⟨b, i, none⟩ u) B v l := by
  have hne := h.ne hb
  obtain ⟨h1, h2⟩ := h
  refine ⟨h1, ?_⟩
  rcases h2 with h2 | ⟨g, cap, cur, rfl, hg, hh, r⟩
  · exact .inl h2
  · exact .inr ⟨g, cap, cur, rfl, hg, by rw [heap_setCell_other _ _ _ _ (by show g ≠ b; intro e; exact hne (by rw [e]; rfl))]; exact hh, r⟩

theorem KeptU.set {B b : Nat} {w w' : World} (h : KeptU B (· = b) w w') (i : Nat) (u : Value) : KeptU B (· = b) w (w'.setCell ⟨b, i, none⟩ u) :=
  ⟨h.os, h.tape, h.output, by simpa using h.size, fun k hk hX hc => by rw [heap_setCell_other _ _ _ _ (by exact hX)]; exact h.block k hk hX hc⟩

/-- Behind copyCheck the builder is a used one. -/
theorem check_any (B b : Nat) (l : List Nat) (w : World) (h : Bd B b l w) :
    Calls Try.prog 73 #[.pointer (some ⟨b, 0, none⟩)] w fun e w' => e = .returned (.tuple #[]) ∧ ∃ v, w'.heap[b]? = some (.cells #[.pointer (some ⟨b, 0, none⟩), v] 47 (0, 0)) ∧ OwB w' B v l ∧ KeptU B (· = b) w w' := by
  obtain ⟨hB, hBw, q, v, hq, hbk, ho⟩ := h
  rcases hq with rfl | rfl
  · refine (check_fresh b w (cell_of_row w b 0 _ _ _ hbk) (by simp [World.shape?, hbk]) (frozen_of_row w b 0 _ _ hbk)).mono ?_
    rintro e w' ⟨rfl, rfl⟩
    refine ⟨rfl, v, ?_, ho.set hbk, (KeptU.refl _ _ _).set _ _⟩
    rw [heap_setCell_same w b 0 _ _ _ hbk]; rfl
  · refine (check_used b w (cell_of_row w b 0 _ _ _ hbk)).mono ?_
    rintro e w' ⟨rfl, rfl⟩
    exact ⟨rfl, v, hbk, ho, KeptU.refl _ _ _⟩

set_option maxHeartbeats 2000000 in
set_option maxRecDepth 100000 in
theorem wByte_any (B b : Nat) (l : List Nat) (c : Nat) (w : World) (h : Bd B b l w) (hl : l.length ≤ 1099511627776) :
    Calls Try.prog 53 #[.pointer (some ⟨b, 0, none⟩), .int .u8 c] w fun e w' => e = .returned .nilIface ∧ Bd B b (l ++ [c]) w' ∧ KeptU B (· = b) w w' := by
  have HC := hid (check_any B b l w h)
  obtain ⟨hB, hBw, -⟩ := h
  go_enter Try.func53, Try.ntmps53
  go_wp2_with fail
  refine Calls.mono HC.out ?_
  rintro e w1 ⟨rfl, v, hbk, ho, hk⟩
  have hlt := lt_of_block hbk
  have c1 : w1.cell? ⟨b, 1, none⟩ = some v := cell_of_row w1 b 1 _ _ _ hbk
  have hB1 : B ≤ w1.heap.size := by omega
  have HBK := hid hbk
  have HO := hid ho
  have HK := hid hk
  clear hbk ho hk
  go_wp2_with (at_builtin; refine wpList_appB _ rfl _ _ rfl B _ l c rfl (HO.out.alloc _) w1.heap.size rfl (cellNew _ _ _ _ rfl) hl (by simp; omega) ?_)
  intro v2 w2 ho2 hg2
  have hk2 : KeptU B (· = b) w1 w2 := ((KeptU.refl B _ w1).alloc _).grown hg2 (HO.out.alloc _)
  have hb2 : w2.heap[b]? = some (.cells #[.pointer (some ⟨b, 0, none⟩), v] 47 (0, 0)) := by
    rw [hg2.block b (by simp; omega) (HO.out.ne HBK.out), Below.heap_alloc _ _ _ hlt]
    exact HBK.out
  have d1 : w2.cell? ⟨b, 1, none⟩ = some v := cell_of_row w2 b 1 _ _ _ hb2
  have f1 : w2.frozen? ⟨b, 1, none⟩ = false := frozen_of_row w2 b 1 _ _ hb2
  obtain ⟨a2, k2, rfl, -, -⟩ := ho2.shape
  have HO2 := hid ho2
  have HB2 := hid hb2
  have HK2 := hid (HK.out.trans hk2)
  clear ho2 hb2 hk2 hg2
  generalize hn : (l ++ [c]).length = n2 at *
  have HN := hid hn
  clear hn
  go_wp2_with fail
  go_ret
  refine ⟨rfl, ⟨hB, by have := HK2.out.size; simp; omega, _, _, .inr rfl, ?_, OwB.set HO2.out HB2.out⟩, HK2.out.set _ _⟩
  rw [heap_setCell_same w2 b 1 _ _ _ HB2.out]; rfl

set_option maxHeartbeats 2000000 in
set_option maxRecDepth 100000 in
theorem wStr_any (B b : Nat) (l : List Nat) (s : ByteArray) (w : World) (h : Bd B b l w) (hl : l.length + s.size ≤ 1099511627776) :
    Calls Try.prog 52 #[.pointer (some ⟨b, 0, none⟩), .string s] w fun e w' => e = .returned (.tuple #[.int .i64 s.size, .nilIface]) ∧ Bd B b (l ++ bl s) w' ∧ KeptU B (· = b) w w' := by
  have HC := hid (check_any B b l w h)
  obtain ⟨hB, hBw, -⟩ := h
  go_enter Try.func52, Try.ntmps52
  go_wp2_with fail
  refine Calls.mono HC.out ?_
  rintro e w1 ⟨rfl, v, hbk, ho, hk⟩
  have hlt := lt_of_block hbk
  have c1 : w1.cell? ⟨b, 1, none⟩ = some v := cell_of_row w1 b 1 _ _ _ hbk
  have hB1 : B ≤ w1.heap.size := by omega
  have HBK := hid hbk
  have HO := hid ho
  have HK := hid hk
  clear hbk ho hk
  go_wp2_with (at_builtin; refine wpList_appS _ rfl _ _ rfl B _ l s rfl HO.out rfl hl hB1 ?_)
  intro v2 w2 ho2 hg2
  have hk2 : KeptU B (· = b) w1 w2 := (KeptU.refl B _ w1).grown hg2 HO.out
  have hb2 : w2.heap[b]? = some (.cells #[.pointer (some ⟨b, 0, none⟩), v] 47 (0, 0)) := by
    rw [hg2.block b hlt (HO.out.ne HBK.out)]
    exact HBK.out
  have d1 : w2.cell? ⟨b, 1, none⟩ = some v := cell_of_row w2 b 1 _ _ _ hb2
  have f1 : w2.frozen? ⟨b, 1, none⟩ = false := frozen_of_row w2 b 1 _ _ hb2
  obtain ⟨a2, k2, rfl, -, -⟩ := ho2.shape
  have HO2 := hid ho2
  have HB2 := hid hb2
  have HK2 := hid (HK.out.trans hk2)
  clear ho2 hb2 hk2 hg2
  generalize hn : (l ++ bl s).length = n2 at *
  have HN := hid hn
  clear hn
  go_wp2_with fail
  refine bodyPost_ret (v := .tuple #[.int .i64 s.size, .nilIface]) (by simp [results, Try.results52, go_sem]) rfl ⟨rfl, ⟨hB, by have := HK2.out.size; simp; omega, _, _, .inr rfl, ?_, OwB.set HO2.out HB2.out⟩, HK2.out.set _ _⟩
  rw [heap_setCell_same w2 b 1 _ _ _ HB2.out]; rfl

end Go.Proofs.Yteainbakfeedpaa
