/- Several texts in one. -/
import Derived.Maps.OwnIn
import Derived.Test.YtjnbapddfhpcnaaZGAH
import Derived.Test.YtjnbapddfhpcnaaZGAD

/- AddCuts: the program. -/
namespace Go.Proofs.Ytjnbapddfhpcnaa
set_option linter.unusedVariables false
set_option linter.unusedSimpArgs false
open Go.RowKit Go.Shelf Go.Maps
attribute [local go_sem] Oper.semAt_some

def mrk (Ds : List Nat) : List Deferred := Ds.map fun D => { target := .collected D, args := #[] }
theorem leaves_mrk {F : Fence} {n : Nat} {P : Program} {fn : Func} {tmps : Array Value} {R : Ending → World → Prop} (Q : World → Prop) (B : Nat) (hQ : ∀ w D, B ≤ D → w.heap[D]? = some (.deferred (some [])) → Q w → Q (w.putObj D (.deferred none)))
    (hfin : ∀ w, Q w → LeavesIn F n P fn tmps R [] .returning w) : ∀ (Ds : List Nat) (w : World), Ds.Nodup → (∀ D ∈ Ds, B ≤ D ∧ w.heap[D]? = some (.deferred (some []))) → Q w → LeavesInM F n P fn tmps R (mrk Ds) .returning w
  | [], w, _, _, hq => hfin w hq
  | D :: Ds, w, hn, hd, hq => by
    obtain ⟨h1, h2⟩ := hd D (by simp)
    refine ⟨by simp, .inl ⟨D, _, rfl, run_takeDeferred h2, leaves_mrk Q B hQ hfin Ds _ (List.nodup_cons.1 hn).2 (fun E hE => ?_) (hQ w D h1 h2 hq)⟩⟩
    obtain ⟨h3, h4⟩ := hd E (by simp [hE])
    exact ⟨h3, by rw [World.putObj_heap_other (fun e => (List.nodup_cons.1 hn).1 (by rw [← e]; exact hE))]; exact h4⟩

theorem make_cset (w : World) : (Instr.makeMap 52 none).run Try.prog w = .ok (.map (some w.heap.size)) (w.alloc (.map #[] 0)) := by
  have h := Try.underlying52
  simp [Instr.makeMap, go_sem, h]

theorem KpC.put {W : World} {l : Nat} {o o' : Obj} (ho : W.heap[l]? = some o) (hc : o.isCells = false) : KpC W (W.putObj l o') := fun b ob hb hob => by
  rw [World.putObj_heap_other (fun e => ?_)]
  · exact hb
  · subst e
    rw [ho] at hb
    cases hb
    rw [hc] at hob
    cases hob

theorem Sets.base {w : World} {B B' g n : Nat} {f : Nat → Value} {xs : Nat → List Int} (h : Sets w B g n f xs) (hb : B' ≤ B) : Sets w B' g n f xs :=
  ⟨Nat.le_trans hb h.lo, h.row, fun i hi => by
    refine ⟨(h.own i hi).1, ?_⟩
    rcases (h.own i hi).2 with h' | ⟨g, cap, cur, e, hB, r⟩
    · exact .inl h'
    · exact .inr ⟨g, cap, cur, e, Nat.le_trans hb hB, r⟩, h.dj⟩
theorem Sets.own' {w w' : World} {B g n : Nat} {f : Nat → Value} {xs : Nat → List Int} {row : Option Nat} (h : Sets w B g n f xs) (hg : w.grownBy w' row) (hr : ∀ r, row = some r → ∃ o : Obj, w.heap[r]? = some o ∧ o.isCells = false) : Sets w' B g n f xs :=
  ⟨h.lo, World.rowIs.of_block h.row (by
    obtain ⟨cc, hh, -⟩ := h.row
    exact hg.block g (lt_of_block hh) (fun e => by
      obtain ⟨o, h1, h2⟩ := hr g e.symm
      rw [hh] at h1
      cases h1
      cases h2)), fun i hi => own_kept (h.own i hi) hg (fun b hb e => by
    obtain ⟨cur, h3⟩ := own_cells (h.own i hi) hb
    obtain ⟨o, h1, h2⟩ := hr b e
    rw [h3] at h1
    cases h1
    cases h2), h.dj⟩

/-- The set under way: the places of l are in it. -/
structure Ad (w : World) (RB MB G LB : Nat) (b e : Option Addr) (n c2 m c3 : Nat) (Ds : List Nat) (l : List Cp) (wr : World) : Prop where
  mp : ∃ D, wr.ownsMap Try.prog 58 unitElem G l.length D ∧ Sk D l
  mb : Bz wr MB #[.map (some G)] 52
  rb : Bz wr RB #[.slice none 0 0] 28
  lb : Bz wr LB #[.slice b n c2, .slice e m c3] 28
  bel : Below w.heap.size w wr
  lo : w.heap.size ≤ G
  ds : ∀ D ∈ Ds, w.heap.size ≤ D ∧ wr.heap[D]? = some (.deferred (some []))

section
variable {w W W' : World} {RB MB G LB : Nat} {b e : Option Addr} {n c2 m c3 : Nat} {Ds : List Nat} {l : List Cp}

theorem Ad.later (h : Ad w RB MB G LB b e n c2 m c3 Ds l W) (hb : Below W.heap.size W W') : Ad w RB MB G LB b e n c2 m c3 Ds l W' :=
  ⟨by obtain ⟨D, h1, h2⟩ := h.mp; exact ⟨D, own_belowU h1 (fun hg => hb.block G hg), h2⟩, h.mb.later hb, h.rb.later hb, h.lb.later hb, h.bel.trans (hb.mono h.bel.size), h.lo, fun D hD => ⟨(h.ds D hD).1, (hb.block D (lt_of_block (h.ds D hD).2)).trans (h.ds D hD).2⟩⟩
theorem map_at {D : DataW Unit} {nn : Nat} (h : W.ownsMap Try.prog 58 unitElem G nn D) : ∃ es clock, W.heap[G]? = some (.map es clock) := by
  obtain ⟨es, clock, hb, -⟩ := h
  exact ⟨es, clock, hb⟩
/-- What an iterator does: it turns no cells, no map, no mark that was there. -/
theorem Ad.own {row : Option Nat} {Z : Nat} (h : Ad w RB MB G LB b e n c2 m c3 Ds l W) (hg : W.grownBy W' row) (hr : ∀ r, row = some r → Z ≤ r ∧ ∃ o : Obj, W.heap[r]? = some o ∧ o.isCells = false) (hZ : w.heap.size ≤ Z) (hG : G < Z) (hD : ∀ D ∈ Ds, D < Z) : Ad w RB MB G LB b e n c2 m c3 Ds l W' := by
  have hbz : ∀ {b : Nat} {cs : Array Value} {t : TypeId}, Bz W b cs t → Bz W' b cs t := fun hb => hb.grown hg (fun e => by
    obtain ⟨-, o, h1, h2⟩ := hr _ e.symm
    rw [show W.heap[_]? = _ from hb] at h1
    cases h1
    cases h2)
  obtain ⟨D, hm, hs⟩ := h.mp
  refine ⟨⟨D, own_belowU hm (fun hl => hg.block G hl (fun e => by have := (hr G e.symm).1; omega)), hs⟩, hbz h.mb, hbz h.rb, hbz h.lb, h.bel.grown hg h.bel.size (fun r e => by have := (hr r e).1; omega), h.lo, fun E hE => ⟨(h.ds E hE).1, (hg.block E (lt_of_block (h.ds E hE).2) (fun e => by have := (hr E e.symm).1; have := hD E hE; omega)).trans (h.ds E hE).2⟩⟩
/-- A place more. -/
theorem Ad.put {p : Cp} {kl : Lit} (h : Ad w RB MB G LB b e n c2 m c3 Ds l W) (D : DataW Unit) (hs : Sk D l) (hp : okP p) (hk : keyOf Try.prog 58 (pv p) = some kl) (hm : W'.ownsMap Try.prog 58 unitElem G (l.length + 1) (D.put kl (.agg []))) (ht : W.mapTurned W' G) : Ad w RB MB G LB b e n c2 m c3 Ds (l ++ [p]) W' := by
  obtain ⟨es, clock, hb⟩ : ∃ es clock, W.heap[G]? = some (.map es clock) := by
    obtain ⟨D9, h9, -⟩ := h.mp
    exact map_at h9
  have hg := ht.grown
  have hbz : ∀ {b : Nat} {cs : Array Value} {t : TypeId}, Bz W b cs t → Bz W' b cs t := fun hz => hz.grown hg (fun e => by
    cases e
    rw [show W.heap[_]? = _ from hz] at hb
    cases hb)
  refine ⟨⟨_, by rw [List.length_append]; exact hm, hs.step hp hk⟩, hbz h.mb, hbz h.rb, hbz h.lb, h.bel.grown hg h.bel.size (fun r e => by cases e; exact h.lo), h.lo, fun E hE => ⟨(h.ds E hE).1, (hg.block E (lt_of_block (h.ds E hE).2) (fun e => ?_)).trans (h.ds E hE).2⟩⟩
  cases e
  rw [(h.ds G hE).2] at hb
  cases hb
end

/-- What AddCuts answers. -/
def addR (n : Nat) (ks ms : List (List Int)) : List Cp := plT ks n ++ plT ms n
def RetAd (w : World) (n : Nat) (ok : Bool) (l : List Cp) (en : Ending) (w' : World) : Prop :=
  if ok = true then ∃ (T : List Cp) (A : Nat) (f : Nat → Value), en = .returned (.tuple #[.agg #[.slice (some ⟨A, 0, none⟩) n n], .bool true]) ∧ T.Pairwise (fun x y => ltP x y = true) ∧ (∀ p, p ∈ T ↔ p ∈ l) ∧ Sets w' w.heap.size A n f (atV T) ∧ Below w.heap.size w w'
  else en = .returned (.tuple #[.agg #[.slice none 0 0], .bool false]) ∧ Below w.heap.size w w'

def lk (P1 P2 : List Cp) : Nat → List Cp
  | 0 => []
  | 1 => P1
  | _ => P1 ++ P2
theorem lk_len (P1 P2 : List Cp) : ∀ k, (lk P1 P2 k).length ≤ P1.length + P2.length
  | 0 => by simp [lk]
  | 1 => by simp [lk]
  | k + 2 => by simp [lk]

set_option maxHeartbeats 600000 in
set_option maxRecDepth 100000 in
theorem implAdd_yes (a b e : Option Addr) (c1 c2 c3 : Nat) (ds : List Dc) (xs ys : List Iw) (n : Nat) (hn : xs.length = n) (hm : ys.length = n) (w : World) (hd : RdD w a ds) (hx : RdII w b xs) (hy : RdII w e ys)
    (hcx : cutR ds (xs.map Iw.ks) = true) (hcy : cutR ds (ys.map Iw.ks) = true) (hnd : n = ds.length) (hn60 : n ≤ 60) (hM1 : (plT (xs.map Iw.ks) n).length ≤ 400000) (hM2 : (plT (ys.map Iw.ks) n).length ≤ 400000)
    (hin : ∀ p ∈ addR n (xs.map Iw.ks) (ys.map Iw.ks), 0 ≤ p.1 ∧ p.1 < (n : Int)) :
    Calls Try.prog 9 #[.slice a ds.length c1, .agg #[.slice b n c2], .agg #[.slice e n c3]] w (RetAd w n true (addR n (xs.map Iw.ks) (ys.map Iw.ks))) := by
  have HC1 := kide (fun (u : World) (hu : Below w.heap.size w u) => (callsIn_wide.2 (implCuts_any a b c1 c2 n ds xs u (hd.later hu) (hx.later hu) hn) : CallsIn Fence.wide 11 Try.prog _ _ _ _))
  have HC2 := kide (fun (u : World) (hu : Below w.heap.size w u) => (callsIn_wide.2 (implCuts_any a e c1 c3 n ds ys u (hd.later hu) (hy.later hu) hm) : CallsIn Fence.wide 11 Try.prog _ _ _ _))
  rw [hcx] at HC1
  rw [hcy] at HC2
  have hmm := make_cset
  have HND := kide hnd
  have HIN := kide hin
  have HM := kide (And.intro hM1 hM2)
  have HX := kide hx
  have HY := kide hy
  have HNM := kide (And.intro hn hm)
  have b1 : Below w.heap.size w (((w.alloc (Obj.cells #[.slice b n c2] 28)).alloc (Obj.cells #[.slice e n c3] 28)).alloc (Obj.cells #[.slice none 0 0] 28)) := (((Below.refl _ _).alloc (Nat.le_refl _) _).alloc (by simp) _).alloc (by simp; omega) _
  have b2 : Below (w.alloc (Obj.cells #[.slice b n c2] 28)).heap.size (w.alloc (Obj.cells #[.slice b n c2] 28)) (((w.alloc (Obj.cells #[.slice b n c2] 28)).alloc (Obj.cells #[.slice e n c3] 28)).alloc (Obj.cells #[.slice none 0 0] 28)) := ((Below.refl _ _).alloc (Nat.le_refl _) _).alloc (by simp) _
  have b3 : Below ((w.alloc (Obj.cells #[.slice b n c2] 28)).alloc (Obj.cells #[.slice e n c3] 28)).heap.size ((w.alloc (Obj.cells #[.slice b n c2] 28)).alloc (Obj.cells #[.slice e n c3] 28)) (((w.alloc (Obj.cells #[.slice b n c2] 28)).alloc (Obj.cells #[.slice e n c3] 28)).alloc (Obj.cells #[.slice none 0 0] 28)) := (Below.refl _ _).alloc (Nat.le_refl _) _
  have x4 := (Bz.new w #[.slice b n c2] 28).later b2
  have x5 := (Bz.new (w.alloc (Obj.cells #[.slice b n c2] 28)) #[.slice e n c3] 28).later b3
  have x6 := Bz.new ((w.alloc (Obj.cells #[.slice b n c2] 28)).alloc (Obj.cells #[.slice e n c3] 28)) #[.slice none 0 0] 28
  simp only [World.size_alloc] at x5 x6
  have B1 := kide b1
  have X4 := kide x4
  have X5 := kide x5
  have X6 := kide x6
  clear hcx hcy hnd hin hM1 hM2 b1 b2 b3 x4 x5 x6 hx hy hd hn hm
  refine callsIn_wide.1 (callsIn_of_wp_marks (n := 12) Try.func9 rfl trivial ?_ rfl)
  simp only [Try.ntmps9, List.size_toArray, List.length_cons, List.length_nil, Nat.reduceAdd, Nat.reduceSub, Array.replicate_succ, Array.replicate_zero, List.push_toArray, List.append_toArray, List.nil_append, List.cons_append]
  gi_wp2
  generalize ((w.alloc (Obj.cells #[.slice b n c2] 28)).alloc (Obj.cells #[.slice e n c3] 28)).alloc (Obj.cells #[.slice none 0 0] 28) = w0 at *
  refine ⟨trivial, (HC1.out w0 B1.out).mono ?_⟩
  rintro en w1 ⟨rfl, hb1⟩
  have B11 := kide (B1.out.trans (hb1.mono B1.out.size))
  have X41 := kide (X4.out.later hb1)
  have X51 := kide (X5.out.later hb1)
  have X61 := kide (X6.out.later hb1)
  have k5 := X51.out.cell 0
  have l5 := X51.out.lt
  simp at k5
  clear hb1 B1 X4 X5 X6
  gi_wp2
  refine ⟨trivial, (HC2.out w1 B11.out).mono ?_⟩
  rintro en w2 ⟨rfl, hb2⟩
  have B21 := kide (B11.out.trans (hb2.mono B11.out.size))
  have X42 := kide (X41.out.later hb2)
  have X52 := kide (X51.out.later hb2)
  have X62 := kide (X61.out.later hb2)
  clear hb2 B11 X41 X51 X61 k5 l5
  have b1 : Below w2.heap.size w2 (((w2.alloc (.map #[] 0)).alloc (Obj.cells #[.map (some w2.heap.size)] 52)).alloc (Obj.cells #[.slice b n c2, .slice e n c3] 28)) := (((Below.refl _ _).alloc (Nat.le_refl _) _).alloc (by simp) _).alloc (by simp; omega) _
  have b2 : Below (w2.alloc (.map #[] 0)).heap.size (w2.alloc (.map #[] 0)) (((w2.alloc (.map #[] 0)).alloc (Obj.cells #[.map (some w2.heap.size)] 52)).alloc (Obj.cells #[.slice b n c2, .slice e n c3] 28)) := ((Below.refl _ _).alloc (Nat.le_refl _) _).alloc (by simp) _
  have b3 : Below ((w2.alloc (.map #[] 0)).alloc (Obj.cells #[.map (some w2.heap.size)] 52)).heap.size ((w2.alloc (.map #[] 0)).alloc (Obj.cells #[.map (some w2.heap.size)] 52)) (((w2.alloc (.map #[] 0)).alloc (Obj.cells #[.map (some w2.heap.size)] 52)).alloc (Obj.cells #[.slice b n c2, .slice e n c3] 28)) := (Below.refl _ _).alloc (Nat.le_refl _) _
  have o4 : (w2.alloc (.map #[] 0)).ownsMap Try.prog 58 unitElem w2.heap.size 0 (.map [] : DataW Unit) := World.ownsMap_made _ _ _ _
  have o5 := own_belowU o4 (fun hl => b2.block _ hl)
  have y1 := (Bz.new (w2.alloc (.map #[] 0)) #[.map (some w2.heap.size)] 52).later b3
  have y2 := Bz.new ((w2.alloc (.map #[] 0)).alloc (Obj.cells #[.map (some w2.heap.size)] 52)) #[.slice b n c2, .slice e n c3] 28
  simp only [World.size_alloc] at y1 y2
  have X43 := kide (X42.out.later b1)
  have X53 := kide (X52.out.later b1)
  have A0 : Hid (Ad w (w.heap.size + 1 + 1) (w2.heap.size + 1) w2.heap.size (w2.heap.size + 1 + 1) b e n c2 n c3 [] [] (((w2.alloc (.map #[] 0)).alloc (Obj.cells #[.map (some w2.heap.size)] 52)).alloc (Obj.cells #[.slice b n c2, .slice e n c3] 28))) := ⟨⟨_, o5, Sk.start⟩, y1, X62.out.later b1, y2, B21.out.trans (b1.mono B21.out.size), B21.out.size, fun D hD => by cases hD⟩
  have k4 := X42.out.cell 0
  have k5 := X52.out.cell 0
  have l4 := X42.out.lt
  have l5 := X52.out.lt
  simp at k4 k5
  clear b1 b2 b3 o4 o5 y1 y2 X42 X52 X62
  gi_wp2
  obtain ⟨P1, hP1⟩ : ∃ P1, plT (xs.map Iw.ks) n = P1 := ⟨_, rfl⟩
  obtain ⟨P2, hP2⟩ : ∃ P2, plT (ys.map Iw.ks) n = P2 := ⟨_, rfl⟩
  have HP1 := kide hP1
  have HP2 := kide hP2
  clear hP1 hP2
  generalize ((w2.alloc (.map #[] 0)).alloc (Obj.cells #[.map (some w2.heap.size)] 52)).alloc (Obj.cells #[.slice b n c2, .slice e n c3] 28) = U0 at *
  obtain ⟨K4, hK4⟩ : ∃ K4, w.heap.size = K4 := ⟨_, rfl⟩
  have HK4 := kide hK4
  rw [hK4] at A0
  simp only [hK4]
  obtain ⟨RB, hRB⟩ : ∃ RB, K4 + 1 + 1 = RB := ⟨_, rfl⟩
  obtain ⟨K5, hK5⟩ : ∃ K5, K4 + 1 = K5 := ⟨_, rfl⟩
  obtain ⟨G, hG⟩ : ∃ G, w2.heap.size = G := ⟨_, rfl⟩
  rw [hG] at A0
  simp only [hG]
  obtain ⟨LB, hLB⟩ : ∃ LB, G + 1 + 1 = LB := ⟨_, rfl⟩
  obtain ⟨MB, hMB⟩ : ∃ MB, G + 1 = MB := ⟨_, rfl⟩
  have hRBw : w.heap.size ≤ RB := by omega
  rw [hRB, hLB, hMB] at A0
  simp only [hRB, hLB]
  simp only [hMB, hK5]
  clear hK4 hRB hK5 hG hLB hMB X43 X53 k4 k5 l4 l5 B21 hmm HC1 HC2
  refine wpIn_loop (fun a' wr => ∃ (k : Nat) (Ds : List Nat) (u3 u7 u9 u10 u11 u12 u13 u14 u15 u16 u17 u18 u19 u20 u21 u22 u23 u24 u25 u29 u30 u31 u32 u33 u34 u35 u36 u37 u38 u39 u40 u41 u42 : Value), k ≤ 2 ∧ a' = { tmps := #[Value.slice a ds.length c1, Value.agg #[Value.slice b n c2], Value.agg #[Value.slice e n c3], u3, Value.pointer (some ⟨K4, 0, none⟩), Value.pointer (some ⟨K5, 0, none⟩), Value.pointer (some ⟨RB, 0, none⟩), u7, Value.pointer (some ⟨MB, 0, none⟩), u9, u10, u11, u12, u13, u14, u15, u16, u17, u18, u19, u20, u21, u22, u23, u24, u25, Value.slice (some ⟨LB, 0, none⟩) 2 2, Value.int .i64 2, Value.int .i64 (k : Int), u29, u30, u31, u32, u33, u34, u35, u36, u37, u38, u39, u40, u41, u42], defers := mrk Ds } ∧ Ds.Nodup ∧ Ad w RB MB G LB b e n c2 n c3 Ds (lk P1 P2 k) wr)
    (fun a' _ => 2 - (intOf (a'.tmps.getD 28 undef)).toNat) ⟨0, [], _, _, _, _, _, _, _, _, _, _, _, _, _, _, _, _, _, _, _, _, _, _, _, _, _, _, _, _, _, _, _, _, _, by omega, rfl, List.nodup_nil, A0.out⟩ ?_
  rintro a' wr ⟨k, Ds, u3, u7, u9, u10, u11, u12, u13, u14, u15, u16, u17, u18, u19, u20, u21, u22, u23, u24, u25, u29, u30, u31, u32, u33, u34, u35, u36, u37, u38, u39, u40, u41, u42, hk, rfl, hnd, hA⟩
  clear A0
  by_cases hk2 : k < 2
  · have k1 : (k : Int) < 2 := by omega
    have k0 : (k : Int) ≥ 0 := by omega
    have q0 := hA.lb.cell 0
    have q1 := hA.lb.cell 1
    simp at q0 q1
    obtain ⟨aK, cK, zs, hc, hrd, hzl, hll, hMz⟩ : ∃ aK cK zs, wr.cell? ⟨LB, k, none⟩ = some (.slice aK n cK) ∧ RdII wr aK zs ∧ zs.length = n ∧ lk P1 P2 (k + 1) = lk P1 P2 k ++ plT (zs.map Iw.ks) n ∧ (plT (zs.map Iw.ks) n).length ≤ 400000 := by
      rcases (show k = 0 ∨ k = 1 by omega) with rfl | rfl
      · exact ⟨b, c2, xs, q0, HX.out.later hA.bel, HNM.out.1, by rw [HP1.out]; simp [lk], HM.out.1⟩
      · exact ⟨e, c3, ys, q1, HY.out.later hA.bel, HNM.out.2, by rw [HP2.out]; simp [lk], HM.out.2⟩
    have HL := kide hll
    have HRD := kide hrd
    have HZL := kide hzl
    have HMZ := kide hMz
    have HA := kide hA
    have HNX := kide hnd
    have hwr : w.heap.size ≤ wr.heap.size := hA.bel.size
    clear hrd hzl hll hMz hA hnd q0 q1
    gi_wp2
    refine ⟨trivial, (placesIn_in Fence.wide 11 trivial rfl aK n cK _).mono ?_⟩
    rintro en U ⟨rfl, hU⟩
    have hbv : Below wr.heap.size wr (wr.alloc (Obj.cells #[.slice aK n cK] 28)) := (Below.refl _ _).alloc (Nat.le_refl _) _
    have hbU : Below (wr.alloc (Obj.cells #[.slice aK n cK] 28)).heap.size (wr.alloc (Obj.cells #[.slice aK n cK] 28)) U := by
      rw [hU]
      exact (Below.refl _ _).alloc (Nat.le_refl _) _
    have XZ : Bz U (wr.alloc (Obj.cells #[.slice aK n cK] 28)).heap.size #[.slice aK n cK] 28 := by rw [hU]; exact Bz.new _ _ _
    have AU := kide ((HA.out.later hbv).later hbU)
    have RDU := kide ((HRD.out.later hbv).later hbU)
    obtain ⟨Z2, HZ2⟩ : ∃ Z2, Hid ((wr.alloc (Obj.cells #[.slice aK n cK] 28)).heap.size = Z2) := ⟨_, rfl⟩
    obtain ⟨Z1, HZ1⟩ : ∃ Z1, Hid (wr.heap.size = Z1) := ⟨_, rfl⟩
    rw [HZ2.out] at XZ
    simp only [HZ2.out, HZ1.out]
    clear hU hbv hbU hc
    gi_wp2
    have zc := XZ.cell 0
    simp at zc
    have hwU : w.heap.size ≤ U.heap.size := AU.out.bel.size
    have hDU : ∀ D ∈ Ds, D < U.heap.size := fun D hD => lt_of_block (AU.out.ds D hD).2
    have hGU : G < U.heap.size := by
      obtain ⟨D9, h9, -⟩ := AU.out.mp
      obtain ⟨es, clock, h8⟩ := map_at h9
      exact lt_of_block h8
    refine wpIn_rangeFunc_ownH rfl (by omega) (gf := 35) (lb := #[.pointer (some ⟨Z2, 0, none⟩)]) rfl trivial (enters_of Try.func35 (by kernel_rfl) rfl)
      (places_stops Fence.wide 11 trivial rfl (by omega) Z2 n cK aK zs HZL.out 400000 HMZ.out U zc RDU.out)
      KpC.trans (fun W l o o' _ ho hc _ => KpC.put ho hc) (Below.refl _ _) (fun _ => rfl)
      (fun pre W => Ad w RB MB G LB b e n c2 n c3 Ds (lk P1 P2 k ++ pre.map Subtype.val) W)
      (fun _ _ _ => False)
      (fun s X Y row hs hg hr => hs.own hg hr hwU hGU hDU) (fun _ _ _ _ _ h _ _ => h) (by simpa using AU.out)
      (fun y a' W => ∃ Bx, Bz W Bx #[.int .i64 y.1.1, .int .i64 y.1.2] 58 ∧ a' = { tmps := #[Value.slice a ds.length c1, Value.agg #[Value.slice b n c2], Value.agg #[Value.slice e n c3], u3, Value.pointer (some ⟨K4, 0, none⟩), Value.pointer (some ⟨K5, 0, none⟩), Value.pointer (some ⟨RB, 0, none⟩), u7, Value.pointer (some ⟨MB, 0, none⟩), u9, Value.pointer (some ⟨Z1, 0, none⟩), Value.pointer (some ⟨Bx, 0, none⟩), u12, u13, u14, u15, u16, u17, u18, u19, u20, u21, u22, u23, u24, u25, Value.slice (some ⟨LB, 0, none⟩) 2 2, Value.int .i64 2, Value.int .i64 (k : Int), Value.bool true, Value.pointer (some ⟨LB, k, none⟩), Value.agg #[Value.slice aK n cK], Value.agg #[Value.slice aK n cK], Value.func (Fn.func 35) #[] #[Value.pointer (some ⟨Z2, 0, none⟩)], pv y.1, u35, u36, u37, u38, u39, u40, u41, u42], defers := [] })
      (fun y a' _ X Y row hs hg hr => by
        obtain ⟨Bx, h1, h3⟩ := hs
        exact ⟨Bx, bz_ownC h1 hg (fun r e => by obtain ⟨-, o, h4, h5⟩ := hr r e; exact ⟨o, h4, fun e => by subst e; cases h5⟩), h3⟩)
      ?assign ?body ?done ?stop
    case stop => exact fun _ _ _ _ _ _ h _ => h.elim
    case assign =>
      rintro l pre ⟨⟨y1, y2⟩, hy⟩ W K hI hK
      have HK := kide hK
      have HI := kide hI
      clear hK hI
      unfold pv
      gi_wp2
      have hba : Below W.heap.size W (W.alloc (Obj.cells #[Value.int .i64 y1, Value.int .i64 y2] 58)) := (Below.refl _ _).alloc (Nat.le_refl _) _
      exact HK.out _ _ ((KeepsOthers.alloc _ _).from _) (fun b o hb _ => (hba.block b (lt_of_block hb)).trans hb) (HI.out.later hba) ⟨W.heap.size, Bz.new _ _ _, rfl⟩
    case body =>
      rintro l pre ⟨⟨y1, y2⟩, hy⟩ a' W hl hrec hI ⟨Bx, hX, rfl⟩ hpN
      have HI := kide hI
      have m0 := hI.mb.cell 0
      have d1 := hX.cell 0
      have d2 := hX.cell 1
      simp at m0 d1 d2
      obtain ⟨D, hm, hs⟩ := hI.mp
      obtain ⟨kl, hkl⟩ := keyOf_pl hy
      have hmax : (lk P1 P2 k ++ pre.map Subtype.val).length < maxLen := by
        have h1 := HM.out.1
        have h2 := HM.out.2
        rw [HP1.out] at h1
        rw [HP2.out] at h2
        have h3 := lk_len P1 P2 k
        rw [List.length_append, List.length_map]
        unfold maxLen
        omega
      clear hI hX hrec
      gi_wp2_with (gi_at_mapUpdate; refine wpListIn_mapUpdate_in _ rfl _ _ _ 52 rfl 58 59 cutKeyed Try.underlying52 unitElem G _ D rfl hm hmax (pv (y1, y2)) (.agg #[]) kl rfl rfl hkl (.agg []) [] unitElem_mk ?_)
      intro w' hm' ht'
      have hm2 : w'.ownsMap Try.prog 58 unitElem G ((lk P1 P2 k ++ pre.map Subtype.val).length + 1) (D.put kl (.agg [])) := by
        rw [List.length_append, List.length_map]
        exact hm'
      have hput := HI.out.put D hs hy hkl hm2 ht'
      have HPUT := kide hput
      have HTG := kide ht'.grown
      obtain ⟨es, clock, hmb⟩ := map_at hm
      have HKC : Hid (KpC W w') := fun b ob hb hob => by
        rw [HTG.out.block b (lt_of_block hb) (fun e => ?_)]
        · exact hb
        · cases e
          rw [hmb] at hb
          cases hb
          cases hob
      clear hm' hm2 ht' hput hm hs hkl hmax hmb m0 d1 d2
      gi_wp2
      refine ⟨KeepsFrom.of_grownBy HTG.out (fun j e => by cases e; exact hGU), HKC.out, ?_⟩
      show Ad w RB MB G LB b e n c2 n c3 Ds (lk P1 P2 k ++ List.map Subtype.val (pre ++ [⟨(y1, y2), hy⟩])) w'
      rw [List.map_append, ← List.append_assoc]
      exact HPUT.out
    case done =>
      rintro D ys W hD hS hI hdf
      rw [hS, ← HL.out] at hI
      have hkw : IntKind.i64.wrap ((k : Int) + 1) = (k : Int) + 1 := by rw [IntKind.wrap_i64]; omega
      have HI : Hid (Ad w RB MB G LB b e n c2 n c3 (D :: Ds) (lk P1 P2 (k + 1)) W) := ⟨hI.mp, hI.mb, hI.rb, hI.lb, hI.bel, hI.lo, fun E hE => by
        rcases List.mem_cons.1 hE with rfl | hE
        · exact ⟨by omega, hdf⟩
        · exact hI.ds E hE⟩
      have NN : Hid ((D :: Ds).Nodup) := List.nodup_cons.2 ⟨fun h9 => by have := hDU D h9; omega, HNX.out⟩
      clear hI hdf hS
      gi_wp2
      refine ⟨⟨k + 1, D :: Ds, _, _, _, _, _, _, _, _, _, _, _, _, _, _, _, _, _, _, _, _, _, _, _, _, _, _, _, _, _, _, _, _, _, by omega, rfl, NN.out, HI.out⟩, ?_⟩
      simp [intOf]
      omega
  · have e9 : k = 2 := by omega
    subst e9
    have hl2 : lk P1 P2 2 = addR n (xs.map Iw.ks) (ys.map Iw.ks) := by unfold addR; rw [HP1.out, HP2.out]; rfl
    rw [hl2] at hA
    have m0 := hA.mb.cell 0
    simp at m0
    obtain ⟨D, hm, hs⟩ := hA.mp
    have hlen : (addR n (xs.map Iw.ks) (ys.map Iw.ks)).length ≤ 1048576 := by
      have h1 := HM.out
      unfold addR
      rw [List.length_append]
      omega
    have HCU := kide (callsIn_wide.2 (cutsAt_any n (by omega) G _ hlen D _ wr hm hs HIN.out) : CallsIn Fence.wide 11 Try.prog _ _ _ _)
    rw [HND.out] at HCU
    have HA := kide hA
    have HNX := kide hnd
    clear hA hnd hm hs hl2
    gi_wp2
    refine ⟨trivial, HCU.out.mono ?_⟩
    rintro en w9 ⟨T, hT1, hT2, A, f, rfl, hsets, hb9⟩
    have HS9 := kide (hsets.base HA.out.bel.size)
    have HB9 := kide (HA.out.bel.trans (hb9.mono HA.out.bel.size))
    have HR9 := kide (HA.out.rb.later hb9)
    have HD9 := kide (fun D hD => And.intro (HA.out.ds D hD).1 ((hb9.block D (lt_of_block (HA.out.ds D hD).2)).trans (HA.out.ds D hD).2))
    have HT := kide (And.intro hT1 hT2)
    have r0 := HR9.out.cell 0
    have f0 := HR9.out.froz 0
    simp at r0
    have hAR : A ≠ RB := fun e => by
      obtain ⟨cc, hh, -⟩ := HS9.out.row
      rw [e] at hh
      have h8 := (show w9.heap[RB]? = _ from HR9.out).symm.trans hh
      simp at h8
    clear hsets hb9 hT1 hT2 HCU
    rw [← HND.out] at *
    gi_wp2
    have XR := HR9.out.set 0 (.slice (some ⟨A, 0, none⟩) n n)
    have S9 := HS9.out.far (i := 0) (x := .slice (some ⟨A, 0, none⟩) n n) HR9.out (by decide) hAR
    have B9 : Below w.heap.size w (w9.setCell ⟨RB, 0, none⟩ (.slice (some ⟨A, 0, none⟩) n n)) := HB9.out.setCell hRBw _
    have D9 : ∀ D ∈ Ds, w.heap.size ≤ D ∧ (w9.setCell ⟨RB, 0, none⟩ (.slice (some ⟨A, 0, none⟩) n n)).heap[D]? = some (.deferred (some [])) := fun D hD => ⟨(HD9.out D hD).1, (heap_setCell_other _ _ _ _ (fun e => by
      have h8 := (HD9.out D hD).2
      have e2 : D = RB := by first | exact e | exact e.symm
      rw [e2] at h8
      have h7 := (show w9.heap[RB]? = _ from HR9.out).symm.trans h8
      simp at h7)).trans (HD9.out D hD).2⟩
    generalize w9.setCell ⟨RB, 0, none⟩ (.slice (some ⟨A, 0, none⟩) n n) = wz at *
    refine leaves_mrk (fun u => Sets u w.heap.size A n f (atV T) ∧ Bz u RB #[.slice (some ⟨A, 0, none⟩) n n] 28 ∧ Below w.heap.size w u) w.heap.size (fun u D hD hd hq => ?_) (fun u hq => ?_) Ds wz HNX.out D9 ⟨S9, XR, B9⟩
    · obtain ⟨h1, h2, h3⟩ := hq
      have hg := grownBy_putObj' u D (.deferred none)
      exact ⟨h1.own' hg (fun r e => by cases e; exact ⟨_, hd, rfl⟩), h2.grown hg (fun e => by cases e; rw [show u.heap[_]? = _ from h2] at hd; cases hd), h3.grown hg h3.size (fun r e => by cases e; exact hD)⟩
    · obtain ⟨h1, h2, h3⟩ := hq
      have c9 := h2.cell 0
      simp at c9
      refine ⟨.tuple #[.agg #[.slice (some ⟨A, 0, none⟩) n n], .bool true], by simp [results, Try.results9, go_sem, c9], ?_⟩
      exact ⟨T, A, f, rfl, HT.out.1, HT.out.2, h1, h3⟩

end Go.Proofs.Ytjnbapddfhpcnaa

/- AddCuts: the program, whatever it is handed. -/
namespace Go.Proofs.Ytjnbapddfhpcnaa
set_option linter.unusedVariables false
set_option linter.unusedSimpArgs false
open Go.RowKit Go.Shelf Go.Maps

set_option maxHeartbeats 1000000 in
set_option maxRecDepth 100000 in
theorem implAdd_no (a b e : Option Addr) (c1 c2 c3 : Nat) (ds : List Dc) (xs ys : List Iw) (n m : Nat) (hn : xs.length = n) (hm : ys.length = m) (w : World) (hd : RdD w a ds) (hx : RdII w b xs) (hy : RdII w e ys)
    (hno : cutR ds (xs.map Iw.ks) = false ∨ (cutR ds (xs.map Iw.ks) = true ∧ cutR ds (ys.map Iw.ks) = false)) :
    Calls Try.prog 9 #[.slice a ds.length c1, .agg #[.slice b n c2], .agg #[.slice e m c3]] w fun en w' => en = .returned (.tuple #[.agg #[.slice none 0 0], .bool false]) ∧ Below w.heap.size w w' := by
  have HC1 := kide (fun (u : World) (hu : Below w.heap.size w u) => implCuts_any a b c1 c2 n ds xs u (hd.later hu) (hx.later hu) hn)
  have HC2 := kide (fun (u : World) (hu : Below w.heap.size w u) => implCuts_any a e c1 c3 m ds ys u (hd.later hu) (hy.later hu) hm)
  have b1 : Below w.heap.size w (((w.alloc (Obj.cells #[.slice b n c2] 28)).alloc (Obj.cells #[.slice e m c3] 28)).alloc (Obj.cells #[.slice none 0 0] 28)) := (((Below.refl _ _).alloc (Nat.le_refl _) _).alloc (by simp) _).alloc (by simp; omega) _
  have b3 : Below ((w.alloc (Obj.cells #[.slice b n c2] 28)).alloc (Obj.cells #[.slice e m c3] 28)).heap.size ((w.alloc (Obj.cells #[.slice b n c2] 28)).alloc (Obj.cells #[.slice e m c3] 28)) (((w.alloc (Obj.cells #[.slice b n c2] 28)).alloc (Obj.cells #[.slice e m c3] 28)).alloc (Obj.cells #[.slice none 0 0] 28)) := (Below.refl _ _).alloc (Nat.le_refl _) _
  have x5 := (Bz.new (w.alloc (Obj.cells #[.slice b n c2] 28)) #[.slice e m c3] 28).later b3
  have x6 := Bz.new ((w.alloc (Obj.cells #[.slice b n c2] 28)).alloc (Obj.cells #[.slice e m c3] 28)) #[.slice none 0 0] 28
  simp only [World.size_alloc] at x5 x6
  have B1 := kide b1
  have X5 := kide x5
  have X6 := kide x6
  clear b1 b3 x5 x6 hx hy hd hn hm
  rcases hno with h1 | ⟨h1, h2⟩
  · rw [h1] at HC1
    clear HC2 h1
    go_enter Try.func9, Try.ntmps9
    go_wp2_with fail
    generalize ((w.alloc (Obj.cells #[.slice b n c2] 28)).alloc (Obj.cells #[.slice e m c3] 28)).alloc (Obj.cells #[.slice none 0 0] 28) = w0 at *
    refine Calls.mono (HC1.out w0 B1.out) ?_
    rintro en w1 ⟨rfl, hb1⟩
    have B11 := kide (B1.out.trans (hb1.mono B1.out.size))
    have X61 := kide (X6.out.later hb1)
    have r0 := X61.out.cell 0
    have f0 := X61.out.froz 0
    simp at r0
    clear hb1 B1 X5 X6
    go_wp2_with fail
    have XR := X61.out.set 0 (.slice none 0 0)
    have r1 := XR.cell 0
    simp at r1
    refine bodyPost_ret (v := .tuple #[.agg #[.slice none 0 0], .bool false]) (by simp [results, Try.results9, go_sem, r1]) rfl ?_
    exact ⟨rfl, B11.out.setCell (by show w.heap.size ≤ w.heap.size + 1 + 1; omega) _⟩
  · rw [h1] at HC1
    rw [h2] at HC2
    clear h1 h2
    go_enter Try.func9, Try.ntmps9
    go_wp2_with fail
    generalize ((w.alloc (Obj.cells #[.slice b n c2] 28)).alloc (Obj.cells #[.slice e m c3] 28)).alloc (Obj.cells #[.slice none 0 0] 28) = w0 at *
    refine Calls.mono (HC1.out w0 B1.out) ?_
    rintro en w1 ⟨rfl, hb1⟩
    have B11 := kide (B1.out.trans (hb1.mono B1.out.size))
    have X51 := kide (X5.out.later hb1)
    have X61 := kide (X6.out.later hb1)
    have k5 := X51.out.cell 0
    have l5 := X51.out.lt
    simp at k5
    clear hb1 B1 X5 X6
    go_wp2_with fail
    refine Calls.mono (HC2.out w1 B11.out) ?_
    rintro en w2 ⟨rfl, hb2⟩
    have B21 := kide (B11.out.trans (hb2.mono B11.out.size))
    have X62 := kide (X61.out.later hb2)
    have r0 := X62.out.cell 0
    have f0 := X62.out.froz 0
    simp at r0
    clear hb2 B11 X51 X61 k5 l5
    go_wp2_with fail
    have XR := X62.out.set 0 (.slice none 0 0)
    have r1 := XR.cell 0
    simp at r1
    refine bodyPost_ret (v := .tuple #[.agg #[.slice none 0 0], .bool false]) (by simp [results, Try.results9, go_sem, r1]) rfl ?_
    exact ⟨rfl, B21.out.setCell (by show w.heap.size ≤ w.heap.size + 1 + 1; omega) _⟩

end Go.Proofs.Ytjnbapddfhpcnaa

/- Cuts of two, joined. No program in sight. -/
namespace Go.Proofs.Ytjnbapddfhpcnaa
set_option linter.unusedVariables false
set_option linter.unusedSimpArgs false
open Go.RowKit

theorem risR_all {W : Int} : ∀ {last : Int} {c : List Int}, risR W last c = true → (∀ x ∈ c, last < x ∧ x < W) ∧ c.Pairwise (· < ·)
  | last, [], _ => ⟨by simp, List.Pairwise.nil⟩
  | last, x :: t, h => by
    simp only [risR, Bool.and_eq_true, decide_eq_true_eq] at h
    obtain ⟨h1, h2⟩ := risR_all h.2
    refine ⟨fun y hy => ?_, List.pairwise_cons.2 ⟨fun y hy => (h1 y hy).1, h2⟩⟩
    rcases List.mem_cons.1 hy with rfl | hy
    · exact h.1
    · have := h1 y hy; omega
theorem cutL_at : ∀ {ds : List Dc} {cs : List (List Int)} {k : Nat} {d : Dc} {c : List Int}, cutL ds cs = true → ds[k]? = some d → cs[k]? = some c → risR d.2 0 c = true
  | d :: ds, c :: cs, 0, d', c', h, h1, h2 => by
    simp only [cutL, Bool.and_eq_true] at h
    simp at h1 h2
    subst h1; subst h2
    exact h.1
  | d :: ds, c :: cs, k + 1, d', c', h, h1, h2 => by
    simp only [cutL, Bool.and_eq_true] at h
    exact cutL_at h.2 (by simpa using h1) (by simpa using h2)
  | [], cs, k, d', c', h, h1, h2 => by simp at h1
  | d :: ds, [], k, d', c', h, h1, h2 => by simp at h2

/-- Strictly rising rows of numbers that have the same members are the same. -/
theorem rising_eq : ∀ {xs ys : List Int}, xs.Pairwise (· < ·) → ys.Pairwise (· < ·) → (∀ a, a ∈ xs ↔ a ∈ ys) → xs = ys
  | [], [], _, _, _ => rfl
  | [], y :: t, _, _, h => by have := (h y).2 (by simp); simp at this
  | x :: s, [], _, _, h => by have := (h x).1 (by simp); simp at this
  | x :: s, y :: t, hx, hy, h => by
    obtain ⟨hx1, hx2⟩ := List.pairwise_cons.1 hx
    obtain ⟨hy1, hy2⟩ := List.pairwise_cons.1 hy
    have e : x = y := by
      rcases List.mem_cons.1 ((h x).1 (by simp)) with e | e
      · exact e
      · rcases List.mem_cons.1 ((h y).2 (by simp)) with e2 | e2
        · exact e2.symm
        · have := hy1 x e; have := hx1 y e2; omega
    subst e
    congr 1
    refine rising_eq hx2 hy2 fun a => ?_
    constructor
    · intro ha
      rcases List.mem_cons.1 ((h a).1 (List.mem_cons_of_mem _ ha)) with e | e
      · subst e; have := hx1 a ha; omega
      · exact e
    · intro ha
      rcases List.mem_cons.1 ((h a).2 (List.mem_cons_of_mem _ ha)) with e | e
      · subst e; have := hy1 a ha; omega
      · exact e

/-- The places of both in a variable of a width. -/
def addV (W : Int) (c d : List Int) : List Int := ((List.range W.toNat).map fun (i : Nat) => (i : Int)).filter fun p => decide (p ∈ c) || decide (p ∈ d)
theorem addV_mem {W : Int} {c d : List Int} (hc : ∀ x ∈ c, 0 < x ∧ x < W) (hd : ∀ x ∈ d, 0 < x ∧ x < W) (a : Int) : a ∈ addV W c d ↔ a ∈ c ∨ a ∈ d := by
  unfold addV
  simp only [List.mem_filter, List.mem_map, List.mem_range, Bool.or_eq_true, decide_eq_true_eq]
  constructor
  · exact fun h => h.2
  · intro h
    refine ⟨⟨a.toNat, ?_, ?_⟩, h⟩
    · rcases h with h | h
      · have := hc a h; omega
      · have := hd a h; omega
    · rcases h with h | h
      · have := hc a h; omega
      · have := hd a h; omega
theorem range_rising (n : Nat) : ((List.range n).map fun (i : Nat) => (i : Int)).Pairwise (· < ·) := by
  rw [List.pairwise_map]
  exact List.pairwise_lt_range.imp fun h => by omega
theorem addV_rising (W : Int) (c d : List Int) : (addV W c d).Pairwise (· < ·) := (range_rising _).filter _
theorem addV_len (W : Int) (c d : List Int) : (addV W c d).length ≤ W.toNat := by
  unfold addV
  refine Nat.le_trans (List.length_filter_le _ _) ?_
  simp

/-- Cuts of two, joined: each variable's. -/
def addL : List Dc → List (List Int) → List (List Int) → List (List Int)
  | d :: ds, c :: cs, e :: es => addV d.2 c e :: addL ds cs es
  | _, _, _ => []
def addZ (ds : List Dc) (cs es : List (List Int)) : List (List Int) := if cutR ds cs = true ∧ cutR ds es = true then addL ds cs es else []
theorem addL_at : ∀ {ds : List Dc} {cs es : List (List Int)} {k : Nat} {d : Dc} {c e : List Int}, ds[k]? = some d → cs[k]? = some c → es[k]? = some e → (addL ds cs es)[k]? = some (addV d.2 c e)
  | d :: ds, c :: cs, e :: es, 0, d', c', e', h1, h2, h3 => by
    simp at h1 h2 h3
    subst h1; subst h2; subst h3
    rfl
  | d :: ds, c :: cs, e :: es, k + 1, d', c', e', h1, h2, h3 => by
    simp only [addL, List.getElem?_cons_succ]
    exact addL_at (by simpa using h1) (by simpa using h2) (by simpa using h3)
  | [], _, _, k, _, _, _, h1, _, _ => by simp at h1
  | _ :: _, [], _, k, _, _, _, _, h2, _ => by simp at h2
  | _ :: _, _ :: _, [], k, _, _, _, _, _, h3 => by simp at h3
theorem addL_len : ∀ {ds : List Dc} {cs es : List (List Int)}, cs.length = ds.length → es.length = ds.length → (addL ds cs es).length = ds.length
  | [], _, _, _, _ => by simp [addL]
  | d :: ds, [], _, h, _ => by simp at h
  | d :: ds, c :: cs, [], _, h => by simp at h
  | d :: ds, c :: cs, e :: es, h1, h2 => by
    simp [addL]
    exact addL_len (by simpa using h1) (by simpa using h2)

theorem plT_mem {ks : List (List Int)} {p : Cp} : ∀ {v : Nat}, p ∈ plT ks v ↔ ∃ i : Nat, i < v ∧ p.1 = (i : Int) ∧ p.2 ∈ ks.getD i []
  | 0 => by simp [plT]
  | v + 1 => by
    rw [plT_succ, List.mem_append, plT_mem]
    constructor
    · rintro (⟨i, h1, h2, h3⟩ | h)
      · exact ⟨i, by omega, h2, h3⟩
      · obtain ⟨a, ha, rfl⟩ := List.mem_map.1 h
        exact ⟨v, by omega, rfl, ha⟩
    · rintro ⟨i, h1, h2, h3⟩
      by_cases e : i = v
      · subst e
        right
        exact List.mem_map.2 ⟨p.2, h3, by rw [← h2]⟩
      · exact .inl ⟨i, by omega, h2, h3⟩

theorem atV_mem {T : List Cp} {v : Nat} {a : Int} : a ∈ atV T v ↔ ((v : Int), a) ∈ T := by
  unfold atV
  simp only [List.mem_map, List.mem_filter, decide_eq_true_eq]
  constructor
  · rintro ⟨p, ⟨h1, h2⟩, rfl⟩
    rw [← h2]
    exact h1
  · intro h
    exact ⟨_, ⟨h, rfl⟩, rfl⟩
theorem atV_rising {T : List Cp} (h : T.Pairwise fun x y => ltP x y = true) (v : Nat) : (atV T v).Pairwise (· < ·) := by
  unfold atV
  rw [List.pairwise_map]
  have h1 := h.filter (fun p => decide (p.1 = (v : Int)))
  refine List.Pairwise.imp_of_mem ?_ h1
  intro x y hx hy hlt
  have e1 : x.1 = (v : Int) := by simpa using (List.mem_filter.1 hx).2
  have e2 : y.1 = (v : Int) := by simpa using (List.mem_filter.1 hy).2
  simp [ltP] at hlt
  omega

theorem atV_add {ds : List Dc} {cs es : List (List Int)} (hc : cutR ds cs = true) (he : cutR ds es = true) {T : List Cp} (hT : T.Pairwise fun x y => ltP x y = true) (hm : ∀ p, p ∈ T ↔ p ∈ plT cs ds.length ++ plT es ds.length) {v : Nat} {d : Dc} {c e : List Int} (h1 : ds[v]? = some d) (h2 : cs[v]? = some c) (h3 : es[v]? = some e) : atV T v = addV d.2 c e := by
  simp only [cutR, Bool.and_eq_true, decide_eq_true_eq] at hc he
  have r1 := (risR_all (cutL_at hc.2 h1 h2)).1
  have r2 := (risR_all (cutL_at he.2 h1 h3)).1
  have hv := (List.getElem?_eq_some_iff.1 h1).1
  refine rising_eq (atV_rising hT v) (addV_rising _ _ _) fun a => ?_
  rw [atV_mem, hm, addV_mem r1 r2, List.mem_append, plT_mem, plT_mem]
  have g1 : cs.getD v [] = c := by simp [List.getD, h2]
  have g2 : es.getD v [] = e := by simp [List.getD, h3]
  constructor
  · rintro (⟨i, i1, i2, i3⟩ | ⟨i, i1, i2, i3⟩)
    · have : v = i := by simp at i2; omega
      subst this
      rw [g1] at i3
      exact .inl i3
    · have : v = i := by simp at i2; omega
      subst this
      rw [g2] at i3
      exact .inr i3
  · rintro (h | h)
    · exact .inl ⟨v, hv, rfl, by rw [g1]; exact h⟩
    · exact .inr ⟨v, hv, rfl, by rw [g2]; exact h⟩

end Go.Proofs.Ytjnbapddfhpcnaa
