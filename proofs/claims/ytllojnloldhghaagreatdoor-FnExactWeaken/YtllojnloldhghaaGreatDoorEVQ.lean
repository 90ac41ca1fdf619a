/- What the law of Eval knows of the memory that it has made. -/
import Derived.Test.YtllojnloldhghaaGreatDoorEVP
import Derived.Test.YtllojnloldhghaaGreatDoorEVN
import Derived.Test.YtllojnloldhghaaGreatDoorEZT
namespace Go.Proofs.YtllojnloldhghaaGreatDoor
set_option linter.unusedVariables false
set_option linter.unusedSimpArgs false
open Go.RowKit

theorem Bz.out {u u' : World} {b B1 B2 : Nat} {cs : Array Value} {t : TypeId} (h : Bz u b cs t) (ho : Out B1 B2 u u') (hd : b < B1 ∨ B2 ≤ b) : Bz u' b cs t := by
  unfold Bz; rw [ho.2.2.2.2 b h.lt hd]; exact h

theorem rowIs_later {w w' : World} {g N : Nat} {t : TypeId} {f : Nat → Value} (h : w.rowIs g t N f) (hb : Below w.heap.size w w') : w'.rowIs g t N f := by
  obtain ⟨cc, hh, r⟩ := h
  exact World.rowIs.of_block ⟨cc, hh, r⟩ (hb.block g (lt_of_block hh))

theorem rowIs_out {w w' : World} {g N B1 B2 : Nat} {t : TypeId} {f : Nat → Value} (h : w.rowIs g t N f) (ho : Out B1 B2 w w') (hd : g < B1 ∨ B2 ≤ g) : w'.rowIs g t N f := by
  obtain ⟨cc, hh, r⟩ := h
  exact World.rowIs.of_block ⟨cc, hh, r⟩ (ho.2.2.2.2 g (lt_of_block hh) hd)

theorem rowIs_lt {w : World} {g N : Nat} {t : TypeId} {f : Nat → Value} (h : w.rowIs g t N f) : g < w.heap.size := by
  obtain ⟨cc, hh, -⟩ := h
  exact lt_of_block hh

theorem BwOwn.f {w : World} {G : Nat} {f : Nat → Value} {ms : List Bw} (h : ∀ j x, ms[j]? = some x → BwOwn w G f j x) : BwF f ms := fun i x hi => by
  obtain ⟨h0, h1, -⟩ := h i x hi
  exact ⟨⟨_, h0⟩, h1⟩

theorem BwOwn.wr {w : World} {G B : Nat} {f : Nat → Value} {ms : List Bw} (h : ∀ j x, ms[j]? = some x → BwOwn w G f j x) (hB : B ≤ G) : ∀ x ∈ ms, WrB w B w.heap.size x := fun x hx => by
  obtain ⟨i, hi, e⟩ := List.mem_iff_getElem.1 hx
  obtain ⟨-, -, g, h2, h3, h4⟩ := h i x (by rw [List.getElem?_eq_getElem hi, e])
  exact ⟨g, x.ws, h2, by omega, h4.lt, h4, rfl⟩

theorem sumB_ct {xs ys : List Bw} (h : xs.map Bw.ct = ys.map Bw.ct) : sumB xs = sumB ys := by
  have : (xs.map Bw.ct).map (fun x => x.2.length) = (ys.map Bw.ct).map (fun x => x.2.length) := by rw [h]
  simp only [List.map_map] at this
  unfold sumB
  have e : (fun x : Bw => x.ws.length) = (fun x => x.2.length) ∘ Bw.ct := rfl
  rw [e, this]

theorem Out.bel {w v v' : World} {B1 B2 : Nat} (h : Below w.heap.size w v) (ho : Out B1 B2 v v') (h1 : w.heap.size ≤ B1) : Below w.heap.size w v' :=
  ⟨ho.1.trans h.os, ho.2.1.trans h.tape, ho.2.2.1.trans h.output, Nat.le_trans h.size ho.2.2.2.1, fun k hk => (ho.2.2.2.2 k (Nat.lt_of_lt_of_le hk h.size) (.inl (by omega))).trans (h.block k hk)⟩

end Go.Proofs.YtllojnloldhghaaGreatDoor
