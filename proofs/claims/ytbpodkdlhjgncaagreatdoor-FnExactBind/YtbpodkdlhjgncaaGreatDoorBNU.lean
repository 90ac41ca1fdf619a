/- The program's Bind between two rounds of its loop; slices.Backward of any row of bindings. -/
import Derived.RangeFuncNested
import Derived.RangeFuncWrites
import Derived.Test.YtbpodkdlhjgncaaGreatDoorBNS
namespace Go.Proofs.YtbpodkdlhjgncaaGreatDoor
set_option linter.unusedVariables false
set_option linter.unusedSimpArgs false
open Go.RowKit Go.Shelf
attribute [local go_sem] Oper.semAt_some

theorem OB2.moveB {w w' : World} {B : Nat} {v : Value} {l : List Bw} (h : OB2 w B v l) (hk : ∀ b, v.ownBlock = some b → w'.heap[b]? = w.heap[b]?) : OB2 w' B v l := by
  refine ⟨h.1, ?_⟩
  rcases h.2 with h0 | ⟨g, cap, cur, rfl, hg, hh, r⟩
  · exact .inl h0
  · exact .inr ⟨g, cap, cur, rfl, hg, (hk g rfl).trans hh, r⟩
theorem bz_ownB {W W' : World} {b : Nat} {cs : Array Value} {t : TypeId} {row : Option Nat} (h : Bz W b cs t) (hg : W.grownBy W' row) (hr : ∀ r, row = some r → ∃ o : Obj, W.heap[r]? = some o ∧ o.isCells = false) : Bz W' b cs t := by
  unfold Bz at h ⊢
  rw [hg.block b (lt_of_block h) (fun e => ?_)]
  · exact h
  · obtain ⟨o, h1, h2⟩ := hr b e.symm
    rw [h] at h1
    cases h1
    cases h2

/-- What lies in memory between two rounds. -/
structure BnS (w2 : World) (A L0 : Nat) (av : Option Addr) (m cv : Nat) (xs : List Vg) (Y : List Wd) {n : Nat} (pre : List (Fin n)) (W : World) : Prop where
  xb : Bz W A #[Value.slice av m cv] 28
  xv : ∃ sv, Bz W (A + 1) #[sv] 33
  tk : ∃ l, Bs W w2.heap.size (.slice av m cv) l ∧ l.map Bw.ct = bL xs pre Y
  bl : Below w2.heap.size w2 W
  sz : L0 ≤ W.heap.size

theorem BnS.own {w2 : World} {A L0 : Nat} {av : Option Addr} {m cv : Nat} {xs : List Vg} {Y : List Wd} {n : Nat} (h1 : w2.heap.size ≤ L0) : OwnFrom L0 (fun (pre : List (Fin n)) W => BnS w2 A L0 av m cv xs Y pre W) := by
  intro pre W W' row h hg hr
  have hr2 : ∀ r, row = some r → ∃ o : Obj, W.heap[r]? = some o ∧ o.isCells = false := fun r e => (hr r e).2
  have keepC : ∀ (k : Nat) (cur : Array Value) (t : TypeId) (fz : Nat × Nat), W.heap[k]? = some (.cells cur t fz) → W'.heap[k]? = W.heap[k]? := fun k cur t fz hc => hg.block k (lt_of_block hc) (fun e => by
    obtain ⟨o, h8, h9⟩ := hr2 k e.symm
    rw [hc] at h8
    cases h8
    cases h9)
  obtain ⟨l, hb, he⟩ := h.tk
  obtain ⟨sv, hsv⟩ := h.xv
  refine ⟨bz_ownB h.xb hg hr2, ⟨sv, bz_ownB hsv hg hr2⟩, ⟨l, ⟨hb.row.moveB fun b hb' => ?_, fun x hx => (hb.nw x hx).kept fun k cur hc => keepC k cur _ _ hc, hb.dj⟩, he⟩, h.bl.grown hg h.bl.size (fun k e => by have := (hr k e).1; omega), Nat.le_trans h.sz hg.size⟩
  obtain ⟨c, hc⟩ := hb.row.typed hb'
  exact keepC b c _ _ hc
theorem BnS.later {w2 : World} {A L0 : Nat} {av : Option Addr} {m cv : Nat} {xs : List Vg} {Y : List Wd} {n : Nat} {pre : List (Fin n)} {W W' : World} (h : BnS w2 A L0 av m cv xs Y pre W) (hb : Below W.heap.size W W') : BnS w2 A L0 av m cv xs Y pre W' := by
  obtain ⟨l, hl, he⟩ := h.tk
  obtain ⟨sv, hsv⟩ := h.xv
  exact ⟨h.xb.later hb, ⟨sv, hsv.later hb⟩, ⟨l, hl.later hb, he⟩, h.bl.trans (hb.mono h.bl.size), Nat.le_trans h.sz hb.size⟩

theorem bn_end {w w2 : World} {A m cv : Nat} {xs : List Vg} {Y : List Wd} {n : Nat} {pre : List (Fin n)} {x : Fin n} {W p : World} {g c5 vq : Nat} {l : List Bw} {X : Wd} {a5 : Option Addr} (hww : w.heap.size ≤ w2.heap.size) (h2A : w2.heap.size ≤ A) (HU : BnS w2 A (A + 2) (some ⟨g, 0, none⟩) m cv xs Y pre W)
    (hbs : Bs W w2.heap.size (.slice (some ⟨g, 0, none⟩) m cv) l) (hct : l.map Bw.ct = bL xs pre Y) (hb : Below W.heap.size W p) (hn : Nw p W.heap.size a5 X.2) (hX : evalR (l.map Bw.ct) (vgN xs x).ct.ts = X) (hv : (vgN xs x).v = (vq : Int)) :
    KeepsFrom (A + 2) W ((p.setCell ⟨g, vq * 2, none⟩ (.int .i64 X.1)).setCell ⟨g, vq * 2 + 1, none⟩ (.slice a5 X.2.length c5)) ∧ KpB w.heap.size (A + 1) W ((p.setCell ⟨g, vq * 2, none⟩ (.int .i64 X.1)).setCell ⟨g, vq * 2 + 1, none⟩ (.slice a5 X.2.length c5)) ∧ BnS w2 A (A + 2) (some ⟨g, 0, none⟩) m cv xs Y (pre ++ [x]) ((p.setCell ⟨g, vq * 2, none⟩ (.int .i64 X.1)).setCell ⟨g, vq * 2 + 1, none⟩ (.slice a5 X.2.length c5)) := by
  obtain ⟨cur, hg⟩ := hbs.row.blk
  have hgl := hbs.row.lt (b := g) rfl
  have hst := hbs.store (i := vq) (x := ⟨X.1, a5, c5, X.2⟩) hb HU.bl.size hn
  obtain ⟨W', hW'⟩ : ∃ W', (p.setCell ⟨g, vq * 2, none⟩ (.int .i64 X.1)).setCell ⟨g, vq * 2 + 1, none⟩ (.slice a5 X.2.length c5) = W' := ⟨_, rfl⟩
  have hsz : W'.heap.size = p.heap.size := by rw [← hW']; simp
  have ot : ∀ b, b ≠ g → b < W.heap.size → W'.heap[b]? = W.heap[b]? := fun b hb' hlt => by
    rw [← hW', heap_setCell_other _ _ _ _ (fun e => by simp only [] at e; exact hb' (by omega)), heap_setCell_other _ _ _ _ (fun e => by simp only [] at e; exact hb' (by omega))]
    exact hb.block b hlt
  have bw : Below w2.heap.size w2 W' := by
    rw [← hW']
    exact ((HU.bl.trans (hb.mono HU.bl.size)).setCell (show w2.heap.size ≤ g from hgl.1) _).setCell (show w2.heap.size ≤ g from hgl.1) _
  have ne : ∀ {b : Nat} {cs : Array Value} {t : TypeId}, Bz W b cs t → t ≠ 63 → b ≠ g := fun {b cs t} h1 h2 e => by
    subst e
    unfold Bz at h1 hg
    rw [hg] at h1
    cases h1
    exact h2 rfl
  have bz : ∀ {b : Nat} {cs : Array Value} {t : TypeId}, Bz W b cs t → t ≠ 63 → Bz W' b cs t := fun h1 h2 => (ot _ (ne h1 h2) h1.lt).trans h1
  obtain ⟨sv, hsv⟩ := HU.xv
  have hs1 := hb.size
  have hs2 := HU.sz
  have hs3 := HU.bl.size
  change KeepsFrom (A + 2) W _ ∧ KpB w.heap.size (A + 1) W _ ∧ BnS w2 A (A + 2) (some ⟨g, 0, none⟩) m cv xs Y (pre ++ [x]) _
  rw [hW'] at hst ⊢
  refine ⟨⟨by omega, fun k o hB hk ho => ?_⟩, ⟨⟨bw.os.trans HU.bl.os.symm, bw.tape.trans HU.bl.tape.symm, bw.output.trans HU.bl.output.symm, by omega, fun k hk => (bw.block k (by omega)).trans (HU.bl.block k (by omega)).symm⟩, (bz hsv (by decide)).trans hsv.symm⟩, ⟨bz HU.xb (by decide), ⟨sv, bz hsv (by decide)⟩, ⟨l.set vq ⟨X.1, a5, c5, X.2⟩, hst, ?_⟩, bw, by omega⟩⟩
  · refine (ot k (fun e => ?_) (Array.getElem?_eq_some_iff.1 hk).1).trans hk
    subst e
    unfold Bz at hg
    rw [hg] at hk
    cases hk
    cases ho
  · rw [bL_snoc, List.map_set, ← hct]
    unfold stepB
    rw [hX]
    have e1 : (vgN xs x).ct.v.toNat = vq := by show (vgN xs x).v.toNat = vq; omega
    rw [e1]
    rfl

/-- All that come, whatever the row's length is. -/
def bw (n : Nat) : List (Fin n) := if h : 0 < n then bwd n h n else []
theorem bL_bw {xs : List Vg} {n : Nat} (hl : xs.length = n) (vs : List Wd) : bL xs (bw n) vs = bindF (xs.map Vg.ct) vs := by
  unfold bw
  split
  · rename_i h
    exact bL_all hl h vs
  · have e : xs = [] := List.eq_nil_of_length_eq_zero (by omega)
    subst e
    rfl

set_option maxRecDepth 100000 in
set_option maxHeartbeats 2000000 in
theorem backward0_in (F : Fence) (n : Nat) (h7 : F.fn 57) (hro : F.round = none) (l Bs cap : Nat) (a : Option Addr) (W : World) (hBs : W.cell? ⟨Bs, 0, none⟩ = some (.slice a 0 cap)) :
    CallsIn F n Tryz.prog 57 #[.func (.yield l) #[] #[], .pointer (some ⟨Bs, 0, none⟩)] W fun e W' => (∃ v, e = .returned v) ∧ W' = W := by
  refine callsIn_of_wp Tryz.func57 rfl h7 ?_ hro
  simp only [Tryz.ntmps57, List.size_toArray, List.length_cons, List.length_nil, Nat.reduceAdd, Nat.reduceSub, Array.replicate_succ, Array.replicate_zero, List.push_toArray, List.append_toArray, List.nil_append, List.cons_append]
  gi_wp2
  gi_loopw [3] (fun i wr => i = .int .i64 (-1) ∧ wr = W) (fun _ _ => 0)
  case atStart => exact ⟨by first | rfl | (congr 1), rfl⟩
  case round =>
    obtain ⟨rfl, rfl⟩ := hrel
    gi_wp2
    go_end0
    exact ⟨⟨_, rfl⟩, rfl⟩

theorem backward_stopsG (F : Fence) (n : Nat) (h7 : F.fn 57) (hro : F.round = none) (hn : 1 ≤ n) (Bs n₀ len cap : Nat) (a : Option Addr) (xs : List Vg) (hl : xs.length = len) (hl2 : len ≤ 1048576) (w : World) (hBs : Bs < w.heap.size) (hn₀ : n₀ ≤ w.heap.size)
    (hc : w.cell? ⟨Bs, 0, none⟩ = some (.slice a len cap)) (hI : 0 < len → ∃ b off, a = some ⟨b, off, none⟩ ∧ b < n₀ ∧ ∀ j, j < len → VsAt w b (off + j * 2) (vgN xs j)) :
    SeqStopsK F n Tryz.prog 57 #[.pointer (some ⟨Bs, 0, none⟩)] (fun x : Fin len => #[Value.int .i64 ((x : Nat) : Int), (vgN xs x).val]) (KpB n₀ Bs) (fun ys => ys = bw len) (fun _ => True) len w := fun l J Jx W hW h1 h2 hY h0 => by
  by_cases h : 0 < len
  · obtain ⟨b, off, rfl, hb, hI⟩ := hI h
    refine (backward_stops F n h7 hro hn Bs n₀ b off len cap xs hl h hl2 w hBs hn₀ hb hc hI l J Jx W hW h1 h2 hY h0).mono ?_
    rintro e W' ⟨hv, ⟨ys, rfl, hJ⟩ | ⟨pre, -, hJ⟩⟩
    · exact ⟨hv, .inl ⟨_, by unfold bw; rw [dif_pos h], hJ⟩⟩
    · exact ⟨hv, .inr ⟨_, trivial, hJ⟩⟩
  · have e : len = 0 := by omega
    subst e
    refine (backward0_in F n h7 hro l Bs cap a W ((hW.cell (p := ⟨Bs, 0, none⟩) hBs).trans hc)).mono ?_
    rintro e W' ⟨hv, rfl⟩
    exact ⟨hv, .inl ⟨_, by unfold bw; rw [dif_neg (by omega)], h0⟩⟩

/-- The block of deferred calls is shut: nothing else is another. -/
theorem bs_putD {w : World} {lo D : Nat} {v : Value} {l : List Bw} {y : Option (List Deferred)} {o : Obj} (h : Bs w lo v l) (hd : w.heap[D]? = some (.deferred y)) : Bs (w.putObj D o) lo v l := by
  have keep : ∀ (k : Nat) (cur : Array Value) (t : TypeId) (fz : Nat × Nat), w.heap[k]? = some (.cells cur t fz) → (w.putObj D o).heap[k]? = w.heap[k]? := fun k cur t fz hc => World.putObj_heap_other (fun e => by subst e; rw [hd] at hc; cases hc)
  exact ⟨h.row.moveB fun b hb => by obtain ⟨c, hc⟩ := h.row.typed hb; exact keep _ _ _ _ hc, fun x hx => (h.nw x hx).kept fun k cur hc => keep _ _ _ _ hc, h.dj⟩
theorem below_putB {w u : World} {n D : Nat} {o : Obj} (h : Below n w u) (hd : n ≤ D) : Below n w (u.putObj D o) := h.trans ⟨rfl, rfl, rfl, by simp, fun k hk => World.putObj_heap_other (fun e => by omega)⟩

end Go.Proofs.YtbpodkdlhjgncaaGreatDoor
