/- A term in new memory, between two blocks: kept, compared, marked. -/
import Derived.Test.YtemdnbldeeifnaaDoorTSL
import Derived.Test.YtemdnbldeeifnaaDoorTNC
import Derived.Test.YtemdnbldeeifnaaDoorEBX
namespace Go.Proofs.YtemdnbldeeifnaaDoor
set_option linter.unusedVariables false
set_option linter.unusedSimpArgs false
open Go.RowKit

theorem nw_own {w w' : World} {lo : Nat} {a : Option Addr} {xs : List Nat} (h : Nw w lo a xs) (hk : ∀ p, a = some p → w'.heap[p.block]? = w.heap[p.block]?) : Nw w' lo a xs := by
  rcases h with ⟨k1, k2⟩ | ⟨g', cur, k1, k2, k3, k4⟩
  · refine .inl ⟨k1, fun z e => ?_⟩
    obtain ⟨q1, q2, cur, q3⟩ := k2 z e
    exact ⟨q1, q2, cur, (hk z e).trans q3⟩
  · exact .inr ⟨g', cur, k1, k2, (hk _ k1).trans k3, k4⟩
theorem ni_own {w w' : World} {lo : Nat} {a : Option Addr} {xs : List Int} (h : Ni w lo a xs) (hk : ∀ p, a = some p → w'.heap[p.block]? = w.heap[p.block]?) : Ni w' lo a xs := by
  rcases h with ⟨k1, k2⟩ | ⟨g', cur, k1, k2, k3, k4⟩
  · refine .inl ⟨k1, fun z e => ?_⟩
    obtain ⟨q1, q2, cur, q3⟩ := k2 z e
    exact ⟨q1, q2, cur, (hk z e).trans q3⟩
  · exact .inr ⟨g', cur, k1, k2, (hk _ k1).trans k3, k4⟩
theorem Ts.mono {w : World} {lo lo' : Nat} {v : Value} {l : List Tg} (h : Ts w lo v l) (hl : lo' ≤ lo) : Ts w lo' v l :=
  ⟨⟨h.row.1, by
      rcases h.row.2 with h0 | ⟨g, cap, cur, e, hg, r⟩
      · exact .inl h0
      · exact .inr ⟨g, cap, cur, e, by omega, r⟩⟩, fun x hx => (h.wn x hx).mono hl, fun x hx => (h.kn x hx).mono hl, h.wd, h.kd⟩

/-- All of it lies from lo on, ahead of hi. -/
structure Tt (lo hi : Nat) (v : Value) (l : List Tg) (w : World) : Prop where
  ts : Ts w lo v l
  rb : ∀ b, v.ownBlock = some b → b < hi
  wb : ∀ x ∈ l, ∀ p, x.wa = some p → p.block < hi
  kb : ∀ x ∈ l, ∀ p, x.ka = some p → p.block < hi
theorem Tt.of {w : World} {lo : Nat} {v : Value} {l : List Tg} (h : Ts w lo v l) : Tt lo w.heap.size v l w := ⟨h, fun b hb => (h.row.lt hb).2, fun x hx => (h.below x hx).1, fun x hx => (h.below x hx).2⟩
theorem Tt.later {w w' : World} {lo hi : Nat} {v : Value} {l : List Tg} (h : Tt lo hi v l w) (hb : Below w.heap.size w w') : Tt lo hi v l w' := ⟨h.ts.later hb, h.rb, h.wb, h.kb⟩
theorem Tt.out {w w' : World} {lo hi B1 B2 : Nat} {v : Value} {l : List Tg} (h : Tt lo hi v l w) (ho : Out B1 B2 w w') (hd : hi ≤ B1 ∨ B2 ≤ lo) : Tt lo hi v l w' where
  ts := ⟨h.ts.row.move fun b hb => ho.2.2.2.2 b (h.ts.row.lt hb).2 (by have := h.rb b hb; have := (h.ts.row.lt hb).1; omega), fun x hx => nw_own (h.ts.wn x hx) fun p hp => ho.2.2.2.2 _ (nw_lt (h.ts.wn x hx) hp).2 (by have := h.wb x hx p hp; have := (nw_lt (h.ts.wn x hx) hp).1; omega), fun x hx => ni_own (h.ts.kn x hx) fun p hp => ho.2.2.2.2 _ (ni_lt (h.ts.kn x hx) hp).2 (by have := h.kb x hx p hp; have := (ni_lt (h.ts.kn x hx) hp).1; omega), h.ts.wd, h.ts.kd⟩
  rb := h.rb
  wb := h.wb
  kb := h.kb

theorem markTerm_tt (lo hi n c k : Nat) (a : Option Addr) (l : List Tg) (w : World) (h : Tt lo hi (.slice a n c) l w) (hh : hi ≤ w.heap.size) (hl : shT l) (hn : l.length = n) (hn2 : n ≤ 1048576) (hk : k ≤ 4000000000000000000) :
    Calls Tryd.prog 13 #[.agg #[.slice a n c], .int .i64 (k : Int)] w fun e w' => e = .returned (.int .i64 (mkT l k l.length : Int)) ∧ HeldTv w' (.slice a n c) l k ∧ Out lo hi w w' := by
  have hb : Below w.heap.size w (w.alloc (Obj.cells #[Value.slice a n c] 30)) := (Below.refl _ _).alloc (Nat.le_refl _) _
  have HM : Hid (Calls Tryd.prog 27 #[.slice a n c, .int .i64 (k : Int)] (w.alloc (Obj.cells #[Value.slice a n c] 30)) fun e w' => e = .returned (.int .i64 (mkT l k l.length : Int)) ∧ HeldTv w' (.slice a n c) l k ∧ Out lo hi (w.alloc (Obj.cells #[Value.slice a n c] 30)) w') := by
    show Calls _ _ _ _ _
    have h2 := h.later hb
    by_cases e : l = []
    · subst e
      subst hn
      refine (markT_nil a c k _).mono (fun e w' h => ⟨h.1, .inl rfl, ?_⟩)
      rw [h.2]
      exact Out.refl _ _ _
    · obtain ⟨g, rfl⟩ : ∃ g, a = some ⟨g, 0, none⟩ := by
        rcases h2.ts.row.2 with ⟨-, h0⟩ | ⟨g, cap, cur, e', -⟩
        · exact absurd (List.eq_nil_of_length_eq_zero h0) e
        · cases e'; exact ⟨g, rfl⟩
      obtain ⟨N, f, h0, hr, hf, h1, -⟩ := h2.ts.row.tn
      have hg2 := h2.rb g rfl
      refine (markT_own lo hi g c n k N l _ f hr h0 hf h1 hg2 (fun x hx => ⟨?_, ?_⟩) hl h2.ts.wd h2.ts.kd hn hn2 hk).mono (fun e w' h => ⟨h.1, .inr ⟨g, n, c, N, rfl, h0, h.2.1⟩, h.2.2.1⟩)
      · rcases h2.ts.wn x hx with ⟨h1, -⟩ | ⟨g', cur, h1, h2', h3, h4⟩
        · exact .inl (by rw [h1]; rfl)
        · exact .inr ⟨g', cur, h1, h2', h2.wb x hx _ h1, h3, fun t ht => ⟨_, h4 t ht⟩⟩
      · rcases h2.ts.kn x hx with ⟨h1, -⟩ | ⟨g', cur, h1, h2', h3, h4⟩
        · exact .inl (by rw [h1]; rfl)
        · exact .inr ⟨g', cur, h1, h2', h2.kb x hx _ h1, h3, fun t ht => ⟨_, h4 t ht⟩⟩
  have HB := kide hb
  clear h hb
  go_enter Tryd.func13, Tryd.ntmps13
  go_wp2_with fail
  refine Calls.mono HM.out ?_
  rintro e w' ⟨rfl, hh, ho⟩
  go_wp2_with fail
  go_ret
  refine ⟨by rw [hn]; rfl, hh, ⟨ho.1.trans HB.out.os, ho.2.1.trans HB.out.tape, ho.2.2.1.trans HB.out.output, Nat.le_trans HB.out.size ho.2.2.2.1, fun j hj hd => ?_⟩⟩
  rw [ho.2.2.2.2 j (Nat.lt_of_lt_of_le hj HB.out.size) hd]
  exact HB.out.block j hj

theorem ok_map {l : List Tg} {X : List Tc} (e : l.map Tg.ct = X) (hX : ∀ y ∈ X, okT y) : ∀ x ∈ l, okT x.ct := fun x hx => hX _ (by rw [← e]; exact List.mem_map_of_mem hx)
theorem sh_map {l : List Tg} {X : List Tc} (e : l.map Tg.ct = X) (hX : ∀ y ∈ X, okT y) : shT l := fun x hx => by
  obtain ⟨-, -, -, -, -, h1, -, h2, -⟩ := ok_map e hX x hx
  exact ⟨h1, h2⟩
theorem len_map {l : List Tg} {X : List Tc} {n : Nat} (e : l.map Tg.ct = X) (hn : X.length = n) : l.length = n := by rw [← hn, ← e]; simp
theorem eqTerm_tt {lo hi lo' hi' : Nat} {a b : Option Addr} {c c' n : Nat} {l m : List Tg} {X : List Tc} {w : World} (h : Tt lo hi (.slice a n c) l w) (h' : Tt lo' hi' (.slice b n c') m w) (e : l.map Tg.ct = X) (e' : m.map Tg.ct = X) (hX : ∀ y ∈ X, okT y) (hn : X.length = n) (hn2 : n ≤ 1048576) :
    Calls Tryd.prog 10 #[.agg #[.slice a n c], .agg #[.slice b n c']] w fun e w' => e = .returned (.bool true) ∧ Below w.heap.size w w' := by
  obtain ⟨a1, c1, e1, r1⟩ := h.ts.rd (by rw [len_map e hn]; exact hn2) (ok_map e hX)
  obtain ⟨a2, c2, e2, r2⟩ := h'.ts.rd (by rw [len_map e' hn]; exact hn2) (ok_map e' hX)
  rw [len_map e hn] at e1
  rw [len_map e' hn] at e2
  cases e1
  cases e2
  exact eqTerm_same a b c c' l m w r1 r2 (e.trans e'.symm) n (len_map e hn) (len_map e' hn)
theorem shR_ok (ds : List Dc) {ns : List Tc} (hns : ∀ n ∈ ns, okT n) : (shR ds ns).length ≤ 1048576 ∧ ∀ y ∈ shR ds ns, okT y := by
  unfold shR
  split
  · simp
  · rename_i h0
    obtain ⟨h1, h4, -, hk⟩ := right_kids h0
    have hf := shTo_f hk ns.length (Nat.le_refl _)
    have hl := hf.l1
    exact ⟨by omega, fun y hy => fm_ok (hf.fm y hy) hns (N := (shTo ns ns.length).1.length) (by omega) (hf.ks y hy)⟩
theorem wr_sn {w : World} {B1 B2 : Nat} {ms : List Tg} (h : ∀ x ∈ ms, WrT w B1 B2 x ∧ x.ct.ws.length ≤ 1048576 ∧ x.ct.ks.length ≤ 1048576) : Sn ms := fun x hx => by
  obtain ⟨⟨⟨g1, y1, a1, -⟩, g2, y2, b1, -⟩, -⟩ := h x hx
  exact ⟨(fun e => by rw [a1] at e; cases e), (fun e => by rw [b1] at e; cases e)⟩

theorem share5 {F P : World → Nat → Option Addr → Nat → List Tg → Nat → Nat → Prop} {G : Prop} (main : (∀ v b a c l x y, F v b a c l x y → P v b a c l x y) → G) (key : ∀ v b a c l x y, F v b a c l x y → P v b a c l x y) : G := main key
theorem Bz.out {u u' : World} {b B1 B2 : Nat} {cs : Array Value} {t : TypeId} (h : Bz u b cs t) (ho : Out B1 B2 u u') (hd : b < B1 ∨ B2 ≤ b) : Bz u' b cs t := by
  unfold Bz; rw [ho.2.2.2.2 b h.lt hd]; exact h
theorem rowIs_later {w w' : World} {g N : Nat} {t : TypeId} {f : Nat → Value} (h : w.rowIs g t N f) (hb : Below w.heap.size w w') : w'.rowIs g t N f := by
  obtain ⟨cc, hh, r⟩ := h
  exact World.rowIs.of_block ⟨cc, hh, r⟩ (hb.block g (lt_of_block hh))
theorem rowIs_out {w w' : World} {g N B1 B2 : Nat} {t : TypeId} {f : Nat → Value} (h : w.rowIs g t N f) (ho : Out B1 B2 w w') (hd : g < B1 ∨ B2 ≤ g) : w'.rowIs g t N f := by
  obtain ⟨cc, hh, r⟩ := h
  exact World.rowIs.of_block ⟨cc, hh, r⟩ (ho.2.2.2.2 g (lt_of_block hh) hd)
theorem rowIs_lt {w : World} {g N : Nat} {t : TypeId} {f : Nat → Value} (h : w.rowIs g t N f) : g < w.heap.size := by
  obtain ⟨cc, hh, -⟩ := h
  exact lt_of_block hh
theorem Out.bel {w v v' : World} {B1 B2 : Nat} (h : Below w.heap.size w v) (ho : Out B1 B2 v v') (h1 : w.heap.size ≤ B1) : Below w.heap.size w v' :=
  ⟨ho.1.trans h.os, ho.2.1.trans h.tape, ho.2.2.1.trans h.output, Nat.le_trans h.size ho.2.2.2.1, fun k hk => (ho.2.2.2.2 k (Nat.lt_of_lt_of_le hk h.size) (.inl (by omega))).trans (h.block k hk)⟩

end Go.Proofs.YtemdnbldeeifnaaDoor
