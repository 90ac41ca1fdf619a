/- An answer that is a row of bytes: what stays readable, and holds its marks, whatever changes outside. -/
import Derived.Test.YtofdkdaehhpgbaaGreatDoorVSP
import Derived.Test.YtofdkdaehhpgbaaGreatDoorVSO
namespace Go.Proofs.YtofdkdaehhpgbaaGreatDoor
set_option linter.unusedVariables false
set_option linter.unusedSimpArgs false
open Go.RowKit

def RbB (lo hi : Nat) (a : Option Addr) (R : List Nat) : World → Prop := Keep lo hi (fun u => RdB u a R)
/-- A row of bytes that can be marked, and then holds its marks. -/
def GbB (lo hi : Nat) (v : Value) : World → Prop := Keep lo hi (fun u => Calls Tryz.prog 15 #[v, .int .i64 1] u fun e w' => ∃ K : Nat, e = .returned (.int .i64 (K : Int)) ∧ Out lo hi u w' ∧
  Keep lo hi (fun u' => Calls Tryz.prog 16 #[v, .int .i64 1] u' fun e' w'' => e' = .returned (.int .i64 (K : Int)) ∧ Below u'.heap.size u' w'') w')
theorem OwB.outs {u u' : World} {lo hi B1 B2 : Nat} {v : Value} {R : List Nat} (h : OwB u lo v R) (hb : ∀ b, v.ownBlock = some b → b < hi) (ho : Out B1 B2 u u') (hd : hi ≤ B1 ∨ B2 ≤ lo) : OwB u' lo v R := by
  refine ⟨h.1, ?_⟩
  rcases h.2 with h0 | ⟨g, cap, cur, rfl, hg, hh, r⟩
  · exact .inl h0
  · have := hb g rfl
    exact .inr ⟨g, cap, cur, rfl, hg, (ho.2.2.2.2 g (lt_of_block hh) (by omega)).trans hh, r⟩
theorem OwB.keep {w : World} {lo hi : Nat} {v : Value} {R : List Nat} (h : OwB w lo v R) (hb : ∀ b, v.ownBlock = some b → b < hi) : Keep lo hi (fun u => OwB u lo v R) w := Keep.of h fun _ _ _ _ h ho hd => h.outs hb ho hd
theorem MkB.out {u u' : World} {lo hi B1 B2 n : Nat} {a : Option Addr} (h : MkB u a n) (hb : ∀ g, a = some ⟨g, 0, none⟩ → lo ≤ g ∧ g < hi) (ho : Out B1 B2 u u') (hd : hi ≤ B1 ∨ B2 ≤ lo) : MkB u' a n := by
  rcases h with h | ⟨g, rfl, hc⟩
  · exact .inl h
  · have := hb g rfl
    refine .inr ⟨g, rfl, fun i hi' => ?_⟩
    rw [← hc i hi']
    simp only [World.cell?]
    rw [ho.2.2.2.2 g (block_lt_of_cell (hc i hi')) (by omega)]
theorem mark_none (w : World) : Calls Tryz.prog 15 #[.slice none 0 0, .int .i64 1] w fun e w' => e = .returned (.int .i64 1) ∧ w' = w := by
  go_enter Tryz.func15, Tryz.ntmps15
  go_wp2_with fail
  go_loopw [1, 5] (fun q i wr => q = .int .i64 1 ∧ i = .int .i64 0 ∧ wr = w) (fun _ _ _ => 0)
  case atStart => exact ⟨rfl, rfl, rfl⟩
  case round =>
    obtain ⟨rfl, rfl, rfl⟩ := hrel
    go_wp2_with fail
    go_ret
    exact ⟨rfl, rfl⟩
def RetGB (R : List Nat) (n : Nat) (w : World) (e : Ending) (w' : World) : Prop := ∃ a c, e = .returned (.slice a n c) ∧ RbB w.heap.size w'.heap.size a R w' ∧ GbB w.heap.size w'.heap.size (.slice a n c) w' ∧ Below w.heap.size w w'
theorem RetY.g {R : List Nat} {w w' : World} {e : Ending} (h : RetY R w e w') (hk : R.length ≤ 60000) : RetGB R R.length w e w' := by
  obtain ⟨v, rfl, ho, hb⟩ := h
  have hlt : ∀ b, v.ownBlock = some b → b < w'.heap.size := fun b hb' => (ho.lt hb').2
  have hkp := ho.keep hlt
  obtain ⟨a, c, rfl, -⟩ := ho.rd
  refine ⟨a, c, rfl, hkp.mono (fun u hu => ?_), hkp.mono (fun u hu => ?_), hb⟩
  · obtain ⟨a', c', e', hr⟩ := hu.rd
    cases e'
    exact hr
  · rcases hu.2 with ⟨e0, h0⟩ | ⟨g, cap, cur, e0, hg, hh, hn, -, hsz, -⟩
    · rw [e0]
      refine (mark_none u).mono fun e1 u1 ⟨he, hw⟩ => ⟨1, he, by rw [hw]; exact Out.refl _ _ _, ?_⟩
      exact Keep.mono (P := fun _ => True) (fun _ _ => trivial) (fun u' _ => (heldByteS_mk none 0 0 u' (.inl rfl) (by omega)).mono (fun _ _ h => h))
    · cases e0
      have hgh := hlt g rfl
      refine (markByteS_own g c R.length w.heap.size cur u hh (by omega) hk).mono fun e1 u1 ⟨he, hm, hou⟩ => ⟨1 + R.length, he, hou.wide hg hgh, ?_⟩
      exact Keep.mono (P := fun u' => MkB u' (some ⟨g, 0, none⟩) R.length) (Keep.of hm fun _ _ _ _ h ho' hd => h.out (fun g' e' => by cases e'; exact ⟨hg, hgh⟩) ho' hd) (fun u' hu' => heldByteS_mk _ c R.length u' hu' hk)
theorem save_len (ds : List Dc) (cs : List Sc) (nx : Int) : (saveR ds cs nx).length ≤ 60000 := by
  unfold saveR
  split
  · split
    · assumption
    · simp
  · simp

end Go.Proofs.YtofdkdaehhpgbaaGreatDoor
