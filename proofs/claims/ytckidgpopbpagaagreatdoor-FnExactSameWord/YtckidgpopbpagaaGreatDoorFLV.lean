/- What the answer of Flatten is bounded by; where copied terms lie. -/
import Derived.Test.YtckidgpopbpagaaGreatDoorZGAL
import Derived.Test.YtckidgpopbpagaaGreatDoorFPN0
import Derived.Test.YtckidgpopbpagaaGreatDoorZGAT
namespace Go.Proofs.YtckidgpopbpagaaGreatDoor
set_option linter.unusedVariables false
set_option linter.unusedSimpArgs false
open Go.RowKit

theorem flt_ok (ds : List Dc) (ns : List Tc) (hv : ∀ n ∈ ns, in64 n.vr) : (∀ s ∈ (fltR ds ns).1, okF s) ∧ (fltR ds ns).1.length ≤ 2000 := by
  unfold fltR
  split
  · simp
  · rename_i h0
    split
    · rename_i hall
      obtain ⟨-, hn1, -, hA, -⟩ := right_at h0 hv
      have hb := hA ns.length (Nat.le_refl _)
      rw [List.take_length] at hb
      have hlen : (bitsN ds [] ns).length = ns.length := by rw [bitsN_len]; simp
      have hlt : ns.length - 1 < (bitsN ds [] ns).length := by omega
      obtain ⟨h1, h2, h3, h4⟩ := hb.ok (ns.length - 1) hlt
      have hm : (bitsN ds [] ns).getD (ns.length - 1) [] ∈ bitsN ds [] ns := by simp [List.getD, hlt]
      have hl := List.all_eq_true.1 hall _ hm
      simp only [decide_eq_true_eq] at hl
      refine ⟨formB_ok _ _ (Nat.le_refl _) (by omega) (fun p hp => ?_), hl⟩
      have h9 := h4 p hp
      refine ⟨h9.1, ?_⟩
      unfold in64
      rcases h9.2 with h | h
      · omega
      · omega
    · simp
/-- Where the rows of a copied term lie. -/
def Wl (u : World) (ms : List Tg) : Prop := ∀ x ∈ ms, (∃ q : Addr, x.wa = some q ∧ q.block < u.heap.size) ∧ ∃ q : Addr, x.ka = some q ∧ q.block < u.heap.size
theorem Wl.of {u : World} {B1 B2 : Nat} {ms : List Tg} (h : ∀ x ∈ ms, WrT u B1 B2 x ∧ x.ct.ws.length ≤ 1048576 ∧ x.ct.ks.length ≤ 1048576) (hB : B2 ≤ u.heap.size) : Wl u ms := fun x hx => by
  obtain ⟨⟨g, zs, e1, -, h1, -⟩, g', zs', e2, -, h2, -⟩ := (h x hx).1
  exact ⟨⟨_, e1, by simp only []; omega⟩, _, e2, by simp only []; omega⟩
theorem Wl.later {u u' : World} {ms : List Tg} (h : Wl u ms) (hb : Below u.heap.size u u') : Wl u' ms := fun x hx => by
  obtain ⟨⟨q, e1, h1⟩, q2, e2, h2⟩ := h x hx
  exact ⟨⟨q, e1, Nat.lt_of_lt_of_le h1 hb.size⟩, q2, e2, Nat.lt_of_lt_of_le h2 hb.size⟩
theorem flt_okS (ds : List Dc) (ns : List Tc) (hv : ∀ n ∈ ns, in64 n.vr) : ∀ s ∈ (fltR ds ns).1, okS s := by
  unfold fltR
  split
  · simp
  · rename_i h0
    split
    · obtain ⟨-, hn1, -, hA, -⟩ := right_at h0 hv
      have hb := hA ns.length (Nat.le_refl _)
      rw [List.take_length] at hb
      have hlen : (bitsN ds [] ns).length = ns.length := by rw [bitsN_len]; simp
      obtain ⟨h1, h2, h3, h4⟩ := hb.ok (ns.length - 1) (by omega)
      exact fun s hs => ((formB_P _ _ (Nat.le_refl _) (by omega) h4).2 s hs).1
    · simp
theorem RdT.v64 {w : World} {a : Option Addr} {xs : List Tg} (hs : RdT w a xs) : ∀ m ∈ xs.map Tg.ct, in64 m.vr := fun m hm => by
  obtain ⟨x, hx, rfl⟩ := List.mem_map.1 hm
  obtain ⟨i, hi⟩ := List.getElem?_of_mem hx
  rcases hs.2 with h0 | ⟨b, o, -, hc⟩
  · rw [h0] at hi; simp at hi
  · exact (hc i x hi).2.2.2.2.1
end Go.Proofs.YtckidgpopbpagaaGreatDoor
