/- A term in new memory, between two blocks: kept, compared, marked. -/
import Derived.Test.YtheglnkndjheaaaGreatDoorTNC
import Derived.Test.YtheglnkndjheaaaGreatDoorZQA
namespace Go.Proofs.YtheglnkndjheaaaGreatDoor
set_option linter.unusedVariables false
set_option linter.unusedSimpArgs false
open Go.RowKit

theorem nw_own {w w' : World} {lo : Nat} {a : Option Addr} {xs : List Nat} (h : Nw w lo a xs) (hk : ∀ p, a = some p → w'.heap[p.block]? = w.heap[p.block]?) : Nw w' lo a xs := by
  rcases h with ⟨k1, k2⟩ | ⟨g', cur, k1, k2, k3, k4⟩
  · refine .inl ⟨k1, fun z e => ?_⟩
    obtain ⟨q1, q2, cur, q3⟩ := k2 z e
    exact ⟨q1, q2, cur, (hk z e).trans q3⟩
  · exact .inr ⟨g', cur, k1, k2, (hk _ k1).trans k3, k4⟩
theorem ni_own {w w' : World} {lo : Nat} {a : Option Addr} {xs : List Int} (h : Ni w lo a xs) (hk : ∀ p, a = some p → w'.heap[p.block]? = w.heap[p.block]?) : Ni w' lo a xs := by
  rcases h with ⟨k1, k2⟩ | ⟨g', cur, k1, k2, k3, k4⟩
  · refine .inl ⟨k1, fun z e => ?_⟩
    obtain ⟨q1, q2, cur, q3⟩ := k2 z e
    exact ⟨q1, q2, cur, (hk z e).trans q3⟩
  · exact .inr ⟨g', cur, k1, k2, (hk _ k1).trans k3, k4⟩
theorem Ts.mono {w : World} {lo lo' : Nat} {v : Value} {l : List Tg} (h : Ts w lo v l) (hl : lo' ≤ lo) : Ts w lo' v l :=
  ⟨⟨h.row.1, by
      rcases h.row.2 with h0 | ⟨g, cap, cur, e, hg, r⟩
      · exact .inl h0
      · exact .inr ⟨g, cap, cur, e, by omega, r⟩⟩, fun x hx => (h.wn x hx).mono hl, fun x hx => (h.kn x hx).mono hl, h.wd, h.kd⟩

/-- All of it lies from lo on, ahead of hi. -/
structure Tt (lo hi : Nat) (v : Value) (l : List Tg) (w : World) : Prop where
  ts : Ts w lo v l
  rb : ∀ b, v.ownBlock = some b → b < hi
  wb : ∀ x ∈ l, ∀ p, x.wa = some p → p.block < hi
  kb : ∀ x ∈ l, ∀ p, x.ka = some p → p.block < hi
theorem Tt.of {w : World} {lo : Nat} {v : Value} {l : List Tg} (h : Ts w lo v l) : Tt lo w.heap.size v l w := ⟨h, fun b hb => (h.row.lt hb).2, fun x hx => (h.below x hx).1, fun x hx => (h.below x hx).2⟩
theorem Tt.later {w w' : World} {lo hi : Nat} {v : Value} {l : List Tg} (h : Tt lo hi v l w) (hb : Below w.heap.size w w') : Tt lo hi v l w' := ⟨h.ts.later hb, h.rb, h.wb, h.kb⟩
theorem Tt.out {w w' : World} {lo hi B1 B2 : Nat} {v : Value} {l : List Tg} (h : Tt lo hi v l w) (ho : Out B1 B2 w w') (hd : hi ≤ B1 ∨ B2 ≤ lo) : Tt lo hi v l w' where
  ts := ⟨h.ts.row.move fun b hb => ho.2.2.2.2 b (h.ts.row.lt hb).2 (by have := h.rb b hb; have := (h.ts.row.lt hb).1; omega), fun x hx => nw_own (h.ts.wn x hx) fun p hp => ho.2.2.2.2 _ (nw_lt (h.ts.wn x hx) hp).2 (by have := h.wb x hx p hp; have := (nw_lt (h.ts.wn x hx) hp).1; omega), fun x hx => ni_own (h.ts.kn x hx) fun p hp => ho.2.2.2.2 _ (ni_lt (h.ts.kn x hx) hp).2 (by have := h.kb x hx p hp; have := (ni_lt (h.ts.kn x hx) hp).1; omega), h.ts.wd, h.ts.kd⟩
  rb := h.rb
  wb := h.wb
  kb := h.kb


theorem ok_map {l : List Tg} {X : List Tc} (e : l.map Tg.ct = X) (hX : ∀ y ∈ X, okT y) : ∀ x ∈ l, okT x.ct := fun x hx => hX _ (by rw [← e]; exact List.mem_map_of_mem hx)
theorem sh_map {l : List Tg} {X : List Tc} (e : l.map Tg.ct = X) (hX : ∀ y ∈ X, okT y) : shT l := fun x hx => by
  obtain ⟨-, -, -, -, -, h1, -, h2, -⟩ := ok_map e hX x hx
  exact ⟨h1, h2⟩
theorem len_map {l : List Tg} {X : List Tc} {n : Nat} (e : l.map Tg.ct = X) (hn : X.length = n) : l.length = n := by rw [← hn, ← e]; simp
theorem eqTerm_tt {lo hi lo' hi' : Nat} {a b : Option Addr} {c c' n : Nat} {l m : List Tg} {X : List Tc} {w : World} (h : Tt lo hi (.slice a n c) l w) (h' : Tt lo' hi' (.slice b n c') m w) (e : l.map Tg.ct = X) (e' : m.map Tg.ct = X) (hX : ∀ y ∈ X, okT y) (hn : X.length = n) (hn2 : n ≤ 1048576) :
    Calls Tryz.prog 59 #[.agg #[.slice a n c], .agg #[.slice b n c']] w fun e w' => e = .returned (.bool true) ∧ Below w.heap.size w w' := by
  obtain ⟨a1, c1, e1, r1⟩ := h.ts.rd (by rw [len_map e hn]; exact hn2) (ok_map e hX)
  obtain ⟨a2, c2, e2, r2⟩ := h'.ts.rd (by rw [len_map e' hn]; exact hn2) (ok_map e' hX)
  rw [len_map e hn] at e1
  rw [len_map e' hn] at e2
  cases e1
  cases e2
  exact eqTerm_same a b c c' l m w r1 r2 (e.trans e'.symm) n (len_map e hn) (len_map e' hn)
theorem share5 {F P : World → Nat → Option Addr → Nat → List Tg → Nat → Nat → Prop} {G : Prop} (main : (∀ v b a c l x y, F v b a c l x y → P v b a c l x y) → G) (key : ∀ v b a c l x y, F v b a c l x y → P v b a c l x y) : G := main key
theorem Bz.out {u u' : World} {b B1 B2 : Nat} {cs : Array Value} {t : TypeId} (h : Bz u b cs t) (ho : Out B1 B2 u u') (hd : b < B1 ∨ B2 ≤ b) : Bz u' b cs t := by
  unfold Bz; rw [ho.2.2.2.2 b h.lt hd]; exact h
theorem rowIs_later {w w' : World} {g N : Nat} {t : TypeId} {f : Nat → Value} (h : w.rowIs g t N f) (hb : Below w.heap.size w w') : w'.rowIs g t N f := by
  obtain ⟨cc, hh, r⟩ := h
  exact World.rowIs.of_block ⟨cc, hh, r⟩ (hb.block g (lt_of_block hh))
theorem rowIs_out {w w' : World} {g N B1 B2 : Nat} {t : TypeId} {f : Nat → Value} (h : w.rowIs g t N f) (ho : Out B1 B2 w w') (hd : g < B1 ∨ B2 ≤ g) : w'.rowIs g t N f := by
  obtain ⟨cc, hh, r⟩ := h
  exact World.rowIs.of_block ⟨cc, hh, r⟩ (ho.2.2.2.2 g (lt_of_block hh) hd)
theorem rowIs_lt {w : World} {g N : Nat} {t : TypeId} {f : Nat → Value} (h : w.rowIs g t N f) : g < w.heap.size := by
  obtain ⟨cc, hh, -⟩ := h
  exact lt_of_block hh
theorem Out.bel {w v v' : World} {B1 B2 : Nat} (h : Below w.heap.size w v) (ho : Out B1 B2 v v') (h1 : w.heap.size ≤ B1) : Below w.heap.size w v' :=
  ⟨ho.1.trans h.os, ho.2.1.trans h.tape, ho.2.2.1.trans h.output, Nat.le_trans h.size ho.2.2.2.1, fun k hk => (ho.2.2.2.2 k (Nat.lt_of_lt_of_le hk h.size) (.inl (by omega))).trans (h.block k hk)⟩

end Go.Proofs.YtheglnkndjheaaaGreatDoor
