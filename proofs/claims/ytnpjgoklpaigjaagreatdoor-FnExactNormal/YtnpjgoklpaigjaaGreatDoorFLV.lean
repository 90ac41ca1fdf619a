/- Where copied terms lie. -/
import Derived.Test.YtnpjgoklpaigjaaGreatDoorGAP
import Derived.Test.YtnpjgoklpaigjaaGreatDoorGAQ
import Derived.Test.YtnpjgoklpaigjaaGreatDoorGBE
namespace Go.Proofs.YtnpjgoklpaigjaaGreatDoor
set_option linter.unusedVariables false
set_option linter.unusedSimpArgs false
open Go.RowKit
def Wl (u : World) (ms : List Tg) : Prop := ∀ x ∈ ms, (∃ q : Addr, x.wa = some q ∧ q.block < u.heap.size) ∧ ∃ q : Addr, x.ka = some q ∧ q.block < u.heap.size
theorem Wl.of {u : World} {B1 B2 : Nat} {ms : List Tg} (h : ∀ x ∈ ms, WrT u B1 B2 x ∧ x.ct.ws.length ≤ 1048576 ∧ x.ct.ks.length ≤ 1048576) (hB : B2 ≤ u.heap.size) : Wl u ms := fun x hx => by
 obtain ⟨⟨g, zs, e1, -, h1, -⟩, g', zs', e2, -, h2, -⟩ := (h x hx).1
 exact ⟨⟨_, e1, by simp only []; omega⟩, _, e2, by simp only []; omega⟩
theorem Wl.later {u u' : World} {ms : List Tg} (h : Wl u ms) (hb : Below u.heap.size u u') : Wl u' ms := fun x hx => by
 obtain ⟨⟨q, e1, h1⟩, q2, e2, h2⟩ := h x hx
 exact ⟨⟨q, e1, Nat.lt_of_lt_of_le h1 hb.size⟩, q2, e2, Nat.lt_of_lt_of_le h2 hb.size⟩
end Go.Proofs.YtnpjgoklpaigjaaGreatDoor
