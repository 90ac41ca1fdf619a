/- Rows of declared variables in new memory: owned, appended to, marked, held. -/
import Derived.Test.YtofdkdaehhpgbaaGreatDoorDNO
import Derived.Test.YtofdkdaehhpgbaaGreatDoorZNC
import Derived.Test.YtofdkdaehhpgbaaGreatDoorZNB
namespace Go.Proofs.YtofdkdaehhpgbaaGreatDoor
set_option linter.unusedVariables false
set_option linter.unusedSimpArgs false
open Go.RowKit

/-- Marks of variables, be there none. -/
def HeldDv (w : World) (v : Value) (n k : Nat) : Prop := n = 0 ∨ ∃ g c N, v = .slice (some ⟨g, 0, none⟩) n c ∧ n * 2 ≤ N ∧ HeldD w g N n k
theorem HeldDv.out {w w' : World} {v : Value} {n k B1 B2 : Nat} (h : HeldDv w v n k) (ho : Out B1 B2 w w') (hd : ∀ b, v.ownBlock = some b → b < B1 ∨ B2 ≤ b) : HeldDv w' v n k := by
  rcases h with h | ⟨g, c, N, rfl, hN, hh⟩
  · exact .inl h
  · exact .inr ⟨g, c, N, rfl, hN, hh.out ho (hd g rfl)⟩

set_option maxHeartbeats 1000000 in
theorem markDn_any (lo hi n c k : Nat) (a : Option Addr) (l : List Dc) (w : World) (h : OD2 w lo (.slice a n c) l) (hb : ∀ b, (Value.slice a n c).ownBlock = some b → b < hi) (hn : n ≤ 1048576) (hk : k ≤ 1048576) :
    Calls Tryz.prog 32 #[.slice a n c, .int .i64 (k : Int)] w fun e w' => e = .returned (.int .i64 ((k + n * 2 : Nat) : Int)) ∧ HeldDv w' (.slice a n c) n k ∧ w.grownBy w' (Value.slice a n c).ownBlock := by
  by_cases hz : ∃ g, a = some ⟨g, 0, none⟩
  · obtain ⟨g, rfl⟩ := hz
    obtain ⟨N, f, hN, hr, -⟩ := h.tn
    exact (markD_val g c n k N f w hr hN hn hk).mono fun e w' ⟨h1, h2, h3⟩ => ⟨h1, .inr ⟨g, c, N, rfl, hN, h2⟩, h3⟩
  · rcases h.2 with ⟨h1, h2⟩ | ⟨g, cap, cur, h1, -⟩
    · cases h1
      clear h hb hz
      go_enter Tryz.func32, Tryz.ntmps32
      go_wp2
      go_loopw [1, 5] (fun q i wr => q = .int .i64 (k : Int) ∧ i = .int .i64 0 ∧ wr = w) (fun _ _ _ => 0)
      case atStart => exact ⟨rfl, rfl, rfl⟩
      case round =>
        obtain ⟨rfl, rfl, rfl⟩ := hrel
        go_wp2
        go_ret
        exact ⟨rfl, .inl rfl, ⟨rfl, rfl, rfl, Nat.le_refl _, fun _ _ _ => rfl⟩⟩
    · cases h1
      exact absurd ⟨g, rfl⟩ hz

set_option maxHeartbeats 1000000 in
theorem heldDn_any (n c k : Nat) (a : Option Addr) (w : World) (h : HeldDv w (.slice a n c) n k) (hn : n ≤ 1048576) (hk : k ≤ 1048576) :
    Calls Tryz.prog 34 #[.slice a n c, .int .i64 (k : Int)] w fun e w' => e = .returned (.int .i64 ((k + n * 2 : Nat) : Int)) ∧ Below w.heap.size w w' := by
  rcases h with h | ⟨g, c', N, e0, hN, hh⟩
  · subst h
    go_enter Tryz.func34, Tryz.ntmps34
    go_wp2
    go_loopw [1, 5] (fun q i wr => q = .int .i64 (k : Int) ∧ i = .int .i64 0 ∧ wr = w) (fun _ _ _ => 0)
    case atStart => exact ⟨rfl, rfl, rfl⟩
    case round =>
      obtain ⟨rfl, rfl, rfl⟩ := hrel
      go_wp2
      go_ret
      exact ⟨rfl, Below.refl _ _⟩
  · cases e0
    exact heldD_val g c n k N w hh hN hn hk

end Go.Proofs.YtofdkdaehhpgbaaGreatDoor
