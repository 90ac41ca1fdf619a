/- Segments in new memory, for the laws. -/
import Derived.Test.YtckidgpopbpagaaGreatDoorZGAP
import Derived.Test.YtckidgpopbpagaaGreatDoorZGAN
import Derived.Test.YtckidgpopbpagaaGreatDoorZGAC
namespace Go.Proofs.YtckidgpopbpagaaGreatDoor
set_option linter.unusedVariables false
set_option linter.unusedSimpArgs false
open Go.RowKit

/-- A segment whose numbers are in bounds. -/
def okF (s : Sc) : Prop := in64 s.v ∧ in64 s.lo ∧ in64 s.wd ∧ in64 s.bw ∧ s.ws.length ≤ 1048576 ∧ ∀ y ∈ s.ws, y < 18446744073709551616
theorem RdS.okF {w : World} {a : Option Addr} {xs : List Sg} (h : RdS w a xs) : ∀ s ∈ xs.map Sg.ct, okF s := fun s hs => by
  obtain ⟨x, hx, rfl⟩ := List.mem_map.1 hs
  obtain ⟨i, hi⟩ := List.getElem?_of_mem hx
  rcases h.2 with h2 | ⟨b, o, -, hc⟩
  · rw [h2] at hi; simp at hi
  · obtain ⟨-, h1, h3, h4, h5, h6⟩ := hc i x hi
    exact ⟨h3, h4, h5, h6, h1.1, h1.2.1⟩
theorem pk_le {l : List Nat} (h : l.length ≤ 4096) : (pack l).length ≤ 1048576 := by rw [pack_len]; omega
theorem formB_ok : ∀ (n : Nat) (l : List Ib), l.length ≤ n → l.length ≤ 4096 → (∀ p ∈ l, in64 p.1 ∧ in64 p.2) → ∀ s ∈ formB l, okF s
  | 0, l, h, _, _, s, hs => by
    have : l = [] := List.eq_nil_of_length_eq_zero (by omega)
    subst this
    rw [formB_nil] at hs
    cases hs
  | n + 1, [], _, _, _, s, hs => by rw [formB_nil] at hs; cases hs
  | n + 1, p :: t, h, h2, hp, s, hs => by
    have hlen : (p :: t).length = t.length + 1 := rfl
    rw [formB_cons] at hs
    split at hs
    · rcases List.mem_cons.1 hs with rfl | hs
      · have hk : ((p :: t).take (runC t + 1)).length ≤ 4096 := by rw [List.length_take]; omega
        unfold segC
        refine ⟨by unfold in64; simp, by unfold in64; simp, by unfold in64; simp only []; omega, by unfold in64; simp only []; omega, pk_le (by rw [List.length_map]; exact hk), pack_lt _⟩
      · exact formB_ok n _ (by rw [List.length_drop]; omega) (by rw [List.length_drop]; omega) (fun q hq => hp q (List.mem_cons_of_mem _ (List.mem_of_mem_drop hq))) s hs
    · rcases List.mem_cons.1 hs with rfl | hs
      · have hk := runV_le t p
        unfold segV
        exact ⟨(hp p (by simp)).1, (hp p (by simp)).2, by unfold in64; simp only []; omega, by unfold in64; simp, by simp, by simp⟩
      · exact formB_ok n _ (by rw [List.length_drop]; omega) (by rw [List.length_drop]; omega) (fun q hq => hp q (List.mem_cons_of_mem _ (List.mem_of_mem_drop hq))) s hs
theorem Ss.rds {w : World} {B n c : Nat} {a : Option Addr} {l : List Sg} (h : Ss w B (.slice a n c) l) (hl : l.length ≤ 1048576) (ho : ∀ x ∈ l, okF x.ct) : RdS w a l := by
  refine ⟨hl, ?_⟩
  rcases h.1.2 with ⟨e, h0⟩ | ⟨g, cap, cur, e, -⟩
  · exact .inl (List.eq_nil_of_length_eq_zero h0)
  · cases e
    refine .inr ⟨g, 0, rfl, fun i x hx => ?_⟩
    have hm := List.mem_of_getElem? hx
    obtain ⟨o1, o2, o3, o4, o5, o6⟩ := ho x hm
    obtain ⟨e0, e1, e2, e3, e4⟩ := sgc_get hx
    have key : ∀ (j : Nat) (u : Value), (sgc l)[j]? = some u → w.cell? ⟨g, 0 + j, none⟩ = some u := fun j u hj => by
      have hc := World.ownsRow.cells h.1 (g := g) rfl j u hj
      rw [Addr.add_lit] at hc
      exact hc
    rw [show (0 : Nat) + i * 5 = 0 + (i * 5) from rfl]
    exact ⟨⟨key _ _ e0, key _ _ e1, key _ _ e2, key _ _ e3, key _ _ e4⟩, (h.2 x hm).rd o5 o6, o1, o2, o3, o4⟩

/-- A row of segments that lies between two places. -/
structure Sf (lo hi : Nat) (v : Value) (l : List Sg) (w : World) : Prop where
  ss : Ss w lo v l
  hv : ∀ b, v.ownBlock = some b → b < hi
  hw : ∀ x ∈ l, ∀ p, x.a = some p → p.block < hi
theorem Sf.of {w : World} {lo : Nat} {v : Value} {l : List Sg} (h : Ss w lo v l) : Sf lo w.heap.size v l w := ⟨h, fun b hb => (h.1.lt hb).2, fun x hx p hp => (nw_lt (h.2 x hx) hp).2⟩
theorem Sf.later {w w' : World} {lo hi : Nat} {v : Value} {l : List Sg} (h : Sf lo hi v l w) (hb : Below w.heap.size w w') : Sf lo hi v l w' := ⟨h.ss.later hb, h.hv, h.hw⟩
theorem nw_keep {w w' : World} {lo : Nat} {a : Option Addr} {xs : List Nat} (h : Nw w lo a xs) (hk : ∀ p, a = some p → w'.heap[p.block]? = w.heap[p.block]?) : Nw w' lo a xs := by
  rcases h with ⟨h1, h2⟩ | ⟨g, cur, h1, h2, h3, h4⟩
  · exact .inl ⟨h1, fun x hx => by
      obtain ⟨k1, k2, cur, k3⟩ := h2 x hx
      exact ⟨k1, k2, cur, by rw [hk x hx]; exact k3⟩⟩
  · exact .inr ⟨g, cur, h1, h2, by have := hk _ h1; simp only [] at this; rw [this]; exact h3, h4⟩
theorem Sf.out {w w' : World} {lo hi B1 B2 : Nat} {v : Value} {l : List Sg} (h : Sf lo hi v l w) (ho : Out B1 B2 w w') (hd : hi ≤ B1 ∨ B2 ≤ lo) : Sf lo hi v l w' := by
  refine ⟨⟨h.ss.1.move fun b hb => ?_, fun x hx => nw_keep (h.ss.2 x hx) fun p hp => ?_⟩, h.hv, h.hw⟩
  · have h1 := h.ss.1.lt hb
    have h2 := h.hv b hb
    exact ho.2.2.2.2 b h1.2 (by omega)
  · have h1 := nw_lt (h.ss.2 x hx) hp
    have h2 := h.hw x hx p hp
    exact ho.2.2.2.2 p.block h1.2 (by omega)
theorem okF_map {l : List Sg} {X : List Sc} (e : l.map Sg.ct = X) (hX : ∀ y ∈ X, okF y) : ∀ x ∈ l, okF x.ct := fun x hx => hX _ (by rw [← e]; exact List.mem_map_of_mem hx)
theorem lenF_map {l : List Sg} {X : List Sc} {n : Nat} (e : l.map Sg.ct = X) (hn : X.length = n) : l.length = n := by rw [← hn, ← e]; simp

end Go.Proofs.YtckidgpopbpagaaGreatDoor
