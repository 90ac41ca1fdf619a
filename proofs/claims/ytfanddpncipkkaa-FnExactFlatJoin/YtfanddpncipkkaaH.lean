/- What l1From answers: the word of a list of bits. -/
import Derived.Test.YtfanddpncipkkaaZFA
import Derived.BigRegion
namespace Go.Proofs.Ytfanddpncipkkaa
set_option linter.unusedVariables false
set_option linter.unusedSimpArgs false
open Go.RowKit

/-- A slice of bytes that holds bs, wherever it lies. -/
def RdB (w : World) (a : Option Addr) (bs : List Nat) : Prop :=
  bs.length ≤ 4194304 ∧ (∀ x ∈ bs, x < 256) ∧ (bs = [] ∨ ∃ b o, a = some ⟨b, o, none⟩ ∧ ∀ i, i < bs.length → w.cell? ⟨b, o + i, none⟩ = some (.int .u8 ((bs.getD i 0 : Nat) : Int)))

theorem RdB.later {w w' : World} {a : Option Addr} {xs : List Nat} (h : RdB w a xs) (hb : Below w.heap.size w w') : RdB w' a xs := by
  obtain ⟨h1, h2, h3⟩ := h
  refine ⟨h1, h2, ?_⟩
  rcases h3 with h3 | ⟨b, o, rfl, hc⟩
  · exact .inl h3
  · refine .inr ⟨b, o, rfl, fun i hi => ?_⟩
    have := hc i hi
    rw [hb.cell (p := ⟨b, o + i, none⟩) (by exact block_lt_of_cell this)]
    exact this

/-- Words in new memory: none at all, or a block of their own. -/
def Fresh (w : World) (lo : Nat) (a : Option Addr) (ys : List Nat) : Prop := (ys = [] ∧ a = none) ∨ ∃ g, a = some ⟨g, 0, none⟩ ∧ lo ≤ g ∧ Own w g ys

/-- What a function answers that gives back a row of words and a flag. -/
def RetB (w : World) (r : Int × List Nat × Bool) (e : Ending) (w' : World) : Prop :=
  ∃ a c, e = .returned (.tuple #[.agg #[.int .i64 r.1, .slice a r.2.1.length c], .bool r.2.2]) ∧ Fresh w' w.heap.size a r.2.1 ∧ Below w.heap.size w w'

def packTo (bs : List Nat) : Nat → List Nat
  | 0 => List.replicate ((bs.length + 63) / 64) 0
  | k + 1 => (packTo bs k).set (k / 64) ((packTo bs k).getD (k / 64) 0 ||| (bs.getD k 0) * 2 ^ (k % 64) % 18446744073709551616)

def pack (bs : List Nat) : List Nat := packTo bs bs.length

theorem packTo_len (bs : List Nat) (k : Nat) : (packTo bs k).length = (bs.length + 63) / 64 := by
  induction k with
  | zero => simp [packTo]
  | succ k ih => simp [packTo, ih]

theorem packTo_lt (bs : List Nat) (k : Nat) : ∀ x ∈ packTo bs k, x < 18446744073709551616 := by
  induction k with
  | zero => intro x hx; simp [packTo] at hx; omega
  | succ k ih =>
    intro x hx
    simp only [packTo] at hx
    rcases List.mem_or_eq_of_mem_set hx with h | h
    · exact ih x h
    · rw [h]
      refine Nat.or_lt_two_pow (n := 64) ?_ (Nat.mod_lt _ (by decide))
      simp only [List.getD]
      cases hg : (packTo bs k)[k / 64]? with
      | none => simp
      | some v => exact ih v (List.mem_of_getElem? hg)

theorem orShift (z y s : Nat) (hz : z < 18446744073709551616) : bits BinOp.or IntKind.u64 (z : Int) (IntKind.u64.wrap ((y : Int) * 2 ^ s)) = ((z ||| y * 2 ^ s % 18446744073709551616 : Nat) : Int) := by
  have e : IntKind.u64.wrap ((y : Int) * 2 ^ s) = ((y * 2 ^ s % 18446744073709551616 : Nat) : Int) := by
    rw [IntKind.wrap_u64]; simp
  rw [e, bits_or_u64_nat _ _ hz (Nat.mod_lt _ (by decide))]

def fromR (bs : List Nat) : Int × List Nat × Bool := if 1 ≤ bs.length ∧ bs.length ≤ 4096 then ((bs.length : Int), pack bs, true) else (0, [], false)

theorem l1From_no (a : Option Addr) (n c : Nat) (w : World) (h : n = 0 ∨ 4096 < n) (hn : n ≤ 4194304) :
    Calls Try.prog 52 #[.slice a n c] w fun e w' => e = .returned (.tuple #[.agg #[.int .i64 0, .slice none 0 0], .bool false]) ∧ Below w.heap.size w w' := by
  rcases h with rfl | h
  · go_enter Try.func52, Try.ntmps52
    go_wp2
    exact bodyPost_ret (v := .tuple #[.agg #[.int .i64 0, .slice none 0 0], .bool false]) (by simp [results, Try.results52, go_sem]) rfl ⟨rfl, (Below.refl _ _).alloc (Nat.le_refl _) _⟩
  · have h1 : ¬ (n : Int) < 1 := by omega
    have h2 : (4096 : Int) < (n : Int) := by omega
    go_enter Try.func52, Try.ntmps52
    go_wp2
    exact bodyPost_ret (v := .tuple #[.agg #[.int .i64 0, .slice none 0 0], .bool false]) (by simp [results, Try.results52, go_sem]) rfl ⟨rfl, (Below.refl _ _).alloc (Nat.le_refl _) _⟩

theorem l1From_yes (a : Option Addr) (c : Nat) (bs : List Nat) (w : World) (hr : RdB w a bs) (h1 : 1 ≤ bs.length) (h2 : bs.length ≤ 4096) :
    Calls Try.prog 52 #[.slice a bs.length c] w (RetB w ((bs.length : Int), pack bs, true)) := by
  have hd : ((bs.length + 63) / 64 : Nat) ≤ 64 := by omega
  have hmk := fun kl kc w => run_make_row' (P := Try.prog) 43 94 (.int .u64 0) 8 Try.underlying43 Try.infoU64 rfl kl kc ((bs.length + 63) / 64) (by omega) (by omega) w
  have ec : (((bs.length + 63) / 64 : Nat) : Int) = ((bs.length : Int) + 63) / 64 := by omega
  simp only [ec] at hmk
  clear ec
  go_enter Try.func52, Try.ntmps52
  go_wp2
  clear hmk
  generalize hN : (bs.length + 63) / 64 = N at *
  have HN : Hid ((bs.length + 63) / 64 = N) := hN
  clear hN
  go_loopw [5] (fun i wr => ∃ k : Nat, k ≤ bs.length ∧ i = .int .i64 k ∧ Own wr (w.heap.size + 1) (packTo bs k) ∧
      wr.heap[w.heap.size]? = some (.cells #[Value.int IntKind.i64 0, Value.slice none 0 0] 45 (0, 0)) ∧
      wr.heap[w.heap.size + 1 + 1]? = some (.cells #[Value.int IntKind.i64 bs.length, Value.slice (some { block := w.heap.size + 1, off := 0 }) N N] 45 (0, 0)) ∧ Below w.heap.size w wr) (fun i _ => bs.length - (intOf i).toNat)
  case atStart =>
    refine ⟨0, Nat.zero_le _, rfl, ?_, ?_, ?_, (((Below.refl _ _).alloc (Nat.le_refl _) _).alloc (by simp) _).alloc (by simp; omega) _⟩
    · unfold Own
      rw [heap_alloc_old _ _ (by simp), show w.heap.size + 1 = (w.alloc (Obj.cells #[Value.int IntKind.i64 0, Value.slice none 0 0] 45)).heap.size by simp, heap_alloc_new, u64s_made, packTo, HN.out]
    · rw [heap_alloc_old _ _ (by simp; omega), heap_alloc_old _ _ (by simp), heap_alloc_new]
    · rw [show w.heap.size + 1 + 1 = ((w.alloc (Obj.cells #[Value.int IntKind.i64 0, Value.slice none 0 0] 45)).alloc (Obj.cells (madeCells #[Value.int IntKind.u64 0] N) 94)).heap.size by simp, heap_alloc_new]
  case round =>
    obtain ⟨k, hk, rfl, hown, hres, hbox, hbel⟩ := hrel
    have hplen := packTo_len bs k
    rw [HN.out] at hplen
    have b1 : wr.cell? ⟨w.heap.size + 1 + 1, 1, none⟩ = some (Value.slice (some { block := w.heap.size + 1, off := 0 }) N N) := cell_of_row wr _ 1 _ _ _ hbox
    have b0 : wr.cell? ⟨w.heap.size + 1 + 1, 0, none⟩ = some (Value.int IntKind.i64 bs.length) := cell_of_row wr _ 0 _ _ _ hbox
    by_cases hlt : k < bs.length
    · obtain ⟨-, hby, h | ⟨b, o, rfl, hc⟩⟩ := hr
      · subst h; simp at hlt
      have hcell := hc k hlt
      have hb : b < w.heap.size := block_lt_of_cell hcell
      have hcw : wr.cell? ⟨b, o + k, none⟩ = some (.int .u8 ((bs.getD k 0 : Nat) : Int)) := by rw [hbel.cell (by exact hb)]; exact hcell
      have hkN : k / 64 < N := by have := HN.out; omega
      have hkNi : (k : Int) / 64 < (N : Int) := by omega
      have hki : (k : Int) < (bs.length : Int) := by omega
      have hcg := hown.cell (i := k / 64) (by omega)
      have hfg := hown.free (k / 64)
      have hb8 : bs.getD k 0 < 256 := by
        have e : bs.getD k 0 = bs[k] := by simp [List.getD, hlt]
        rw [e]; exact hby _ (List.getElem_mem _)
      generalize hz : (packTo bs k).getD (k / 64) 0 = z at hcg
      generalize hy : bs.getD k 0 = y at *
      clear hc hcell hby
      have hz64 : z < 18446744073709551616 := by
        rw [← hz]
        simp only [List.getD]
        cases hg : (packTo bs k)[k / 64]? with
        | none => simp
        | some v => exact packTo_lt bs k v (List.mem_of_getElem? hg)
      have HO : Hid (Own (wr.setCell ⟨w.heap.size + 1, k / 64, none⟩ (.int .u64 (bits BinOp.or IntKind.u64 (z : Int) (IntKind.u64.wrap ((y : Int) * 2 ^ (k % 64)))))) (w.heap.size + 1) (packTo bs (k + 1))) := by
        have h := hown.put (k / 64) (z ||| y * 2 ^ (k % 64) % 18446744073709551616)
        rw [← orShift z y _ hz64] at h
        show Own _ _ _
        rw [packTo, hz, hy]
        exact h
      clear hz hy hz64
      go_wp2
      go_region
      go_wp2
      go_roundw
      case rel =>
        refine ⟨k + 1, by omega, by go_num, HO.out, ?_, ?_, ?_⟩
        · show (World.setCell _ _ _).heap[_]? = _
          rw [heap_setCell_other _ _ _ _ (by simp)]; exact hres
        · show (World.setCell _ _ _).heap[_]? = _
          rw [heap_setCell_other _ _ _ _ (by simp)]; exact hbox
        · exact (hbel.setCell (by simp) _).drew
      case measure => simp [intOf]; omega
    · have e : k = bs.length := by omega
      have c0 : wr.cell? ⟨w.heap.size, 0, none⟩ = some (Value.int IntKind.i64 0) := cell_of_row wr _ 0 _ _ _ hres
      have c1 : wr.cell? ⟨w.heap.size, 1, none⟩ = some (Value.slice none 0 0) := cell_of_row wr _ 1 _ _ _ hres
      have f0 : wr.frozen? ⟨w.heap.size, 0, none⟩ = false := frozen_of_row wr _ 0 _ _ hres
      have f1 : wr.frozen? ⟨w.heap.size, 1, none⟩ = false := frozen_of_row wr _ 1 _ _ hres
      have HO : Hid (Own wr (w.heap.size + 1) (pack bs)) := by rw [e] at hown; exact hown
      have HP : Hid ((pack bs).length = N) := by rw [e] at hplen; exact hplen
      clear hown hplen hres hbox e
      go_wp2
      refine bodyPost_ret (v := .tuple #[.agg #[.int .i64 bs.length, .slice (some ⟨w.heap.size + 1, 0, none⟩) N N], .bool true]) (by simp [results, Try.results52, go_sem, c0, c1]) rfl ?_
      refine ⟨some ⟨w.heap.size + 1, 0, none⟩, N, by rw [HP.out], .inr ⟨_, rfl, Nat.le_succ _, (HO.out.other (by simp) _).other (by simp) _⟩, (hbel.setCell (Nat.le_refl _) _).setCell (Nat.le_refl _) _⟩

end Go.Proofs.Ytfanddpncipkkaa
