/- The given reader: what it holds, where an atom ends. -/
import Derived.Test.YteainbakfeedpaaVH
namespace Go.Proofs.Yteainbakfeedpaa
set_option linter.unusedVariables false
set_option linter.unusedSimpArgs false
open Go.RowKit

theorem bn_extract (s : ByteArray) (p e i : Nat) (he : e ≤ s.size) (hi : p + i < e) : bn (s.extract p e) i = bn s (p + i) := by
  have hs := extract_size s p e he
  unfold bn
  rw [dif_pos (by omega), dif_pos (by omega)]
  rw [ByteArray.getElem_extract]

theorem l2Atom_one (s : ByteArray) (p : Nat) (hp : p < s.size) (w : World) :
    Calls Try.prog 62 #[.string (s.extract p (p + 1))] w fun e w' => e = .returned (.bool (atomB (bn s p))) ∧ w' = w := by
  have hs := extract_size s p (p + 1) (by omega)
  have h := l2Atom_any (s.extract p (p + 1)) (by omega) w
  have e : (allAtom (s.extract p (p + 1)) && decide (0 < (s.extract p (p + 1)).size)) = atomB (bn s p) := by
    rw [show decide (0 < (s.extract p (p + 1)).size) = true by simp; omega, Bool.and_true, Bool.eq_iff_iff, allAtom_iff]
    constructor
    · intro h
      have := h 0 (by omega)
      rwa [bn_extract s p (p + 1) 0 (by omega) (by omega)] at this
    · intro h i hi
      have : i = 0 := by omega
      subst this
      rwa [bn_extract s p (p + 1) 0 (by omega) (by omega)]
  rw [e] at h
  exact h

theorem l2End_any (s : ByteArray) (p : Nat) (hp : p ≤ s.size) (hs : s.size ≤ 1048576) (w : World) :
    Calls Try.prog 37 #[.string s, .int .i64 (p : Int)] w fun e w' => e = .returned (.int .i64 ((runE atomB s (s.size - p) p : Nat) : Int)) ∧ w' = w := by
  generalize hR : runE atomB s (s.size - p) p = R
  have HR := hidI hR
  clear hR
  go_enter Try.func37, Try.ntmps37
  go_wp2_with fail
  go_loopw [1] (fun q wr => ∃ k : Nat, p ≤ k ∧ k ≤ s.size ∧ q = .int .i64 (k : Int) ∧ runE atomB s (s.size - k) k = R ∧ wr = w) (fun q _ => s.size - (intOf q).toNat)
  case atStart => exact ⟨p, Nat.le_refl _, hp, rfl, HR.out, rfl⟩
  case round =>
    obtain ⟨k, hk1, hk2, rfl, hr, rfl⟩ := hrel
    have HK := hidI hr
    clear hr HR
    by_cases hlt : k < s.size
    · have HA := hidI (fun (u : World) => l2Atom_one s k hlt u)
      have HST : Hid (runE atomB s (s.size - k) k = if atomB (bn s k) = true then runE atomB s (s.size - (k + 1)) (k + 1) else k) := by
        show _ = _
        rw [show s.size - k = (s.size - (k + 1)) + 1 by omega, runE]
      generalize atomB (bn s k) = r at *
      have i0 : (k : Int) < (s.size : Int) := by omega
      have i1 : (k : Int) + 1 ≤ (s.size : Int) := by omega
      cases r with
      | true =>
        go_wp2_with (go_at_call 62; refine Calls.mono (HA.out _) ?_; rintro e w1 ⟨rfl, rfl⟩)
        go_roundw
        case rel => exact ⟨k + 1, by omega, by omega, by go_num, by have h := HK.out; rw [HST.out, if_pos trivial] at h; exact h, trivial⟩
        case measure => simp [intOf]; omega
      | false =>
        go_wp2_with (go_at_call 62; refine Calls.mono (HA.out _) ?_; rintro e w1 ⟨rfl, rfl⟩)
        go_ret
        exact ⟨ret_int (by have h := HK.out; rw [HST.out] at h; simp at h; rw [h]), rfl⟩
    · go_wp2_with fail
      go_ret
      refine ⟨ret_int ?_, rfl⟩
      have h := HK.out
      rw [show s.size - k = 0 by omega, runE] at h
      rw [h]

def RowJ (w : World) (B : Nat) (v : Value) (ks : List Int) : Prop := w.ownsRow B 3 1 v ks.length (ints ks)
theorem Try.infoInt : (Try.prog.info? 3).map (fun i => (i.zero, i.size, i.bytes)) = some (some (.int .i64 0), 1, 8) := by kernel_rfl
theorem RowJ.shape {w : World} {B : Nat} {v : Value} {ks : List Int} (h : RowJ w B v ks) : ∃ ao cap, v = .slice ao ks.length cap ∧ ks.length ≤ cap ∧ cap ≤ maxLen := by
  rcases h.2 with ⟨rfl, h'⟩ | ⟨g, cap, cur, rfl, -, -, h1, h2, -⟩
  · exact ⟨none, 0, by rw [h'], by omega, Nat.zero_le _⟩
  · exact ⟨some ⟨g, 0, none⟩, cap, rfl, h1, h2⟩
theorem RowJ.later {w w' : World} {B : Nat} {v : Value} {ks : List Int} (h : RowJ w B v ks) (hb : Below w.heap.size w w') : RowJ w' B v ks := owns_keep h (grown_below hb) (fun _ _ e => by cases e)

/-- The given reader at block R: its nodes, its open lists. -/
structure Sr (w : World) (B R : Nat) (vN vO : Value) (ns : List Nd) (op : List Nat) : Prop where
  le : B ≤ R
  size : B ≤ w.heap.size
  blk : w.heap[R]? = some (.cells #[vN, vO] 72 (0, 0))
  nodes : ONs w B vN ns
  row : RowJ w B vO (oi op)

theorem Sr.cells {w : World} {B R : Nat} {vN vO : Value} {ns : List Nd} {op : List Nat} (h : Sr w B R vN vO ns op) :
    w.cell? ⟨R, 0, none⟩ = some vN ∧ w.cell? ⟨R, 1, none⟩ = some vO ∧ ∀ j, w.frozen? ⟨R, j, none⟩ = false :=
  ⟨by rw [cell_of_row w R 0 _ _ _ h.blk]; rfl, by rw [cell_of_row w R 1 _ _ _ h.blk]; rfl, fun j => frozen_of_row w R j _ _ h.blk⟩
theorem Sr.lt {w : World} {B R : Nat} {vN vO : Value} {ns : List Nd} {op : List Nat} (h : Sr w B R vN vO ns op) : R < w.heap.size := lt_of_block h.blk
theorem Sr.later {w w' : World} {B R : Nat} {vN vO : Value} {ns : List Nd} {op : List Nat} (h : Sr w B R vN vO ns op) (hb : Below w.heap.size w w') : Sr w' B R vN vO ns op :=
  ⟨h.le, Nat.le_trans h.size hb.size, by rw [hb.block R h.lt]; exact h.blk, h.nodes.later hb, h.row.later hb⟩

theorem Sr.pushN {w w1 : World} {B R g cap : Nat} {t : ByteArray} {vN vO : Value} {ns : List Nd} {op : List Nat} (h : Sr w B R vN vO ns op) (hl : ns.length < 2000) (hg : w.grownBy w1 vN.ownBlock)
    (ho : w1.ownsRow B 59 2 (.slice (some ⟨g, 0, none⟩) (ns.length + 1) cap) (ns.length + 1) (nc ns ++ [.string t, .slice none 0 0])) (ht : t.size ≤ 1048576) :
    Sr (w1.setCell ⟨R, 0, none⟩ (.slice (some ⟨g, 0, none⟩) (ns.length + 1) cap)) B R (.slice (some ⟨g, 0, none⟩) (ns.length + 1) cap) vO (ns ++ [⟨t, none, 0, []⟩]) op ∧ Below B w (w1.setCell ⟨R, 0, none⟩ (.slice (some ⟨g, 0, none⟩) (ns.length + 1) cap)) := by
  have hb1 : w1.heap[R]? = some (.cells #[vN, vO] 72 (0, 0)) := by
    rw [hg.block R h.lt (fun e => owns_ne h.nodes.row h.blk (by decide) e.symm)]
    exact h.blk
  have hn1 := h.nodes.push hl hg ho ht
  have hr1 : RowJ w1 B vO (oi op) := owns_keep h.row hg (fun k hk e => by
    obtain ⟨-, -, cs, fr, hb⟩ := owns_typed h.nodes.row e.symm
    exact owns_ne h.row hb (by decide) hk)
  have hbel := Below_grown hg h.nodes.row h.size
  refine ⟨⟨h.le, Nat.le_trans h.size (by simpa using hg.size), ?_, hn1.other grown_set hb1 (by decide) (by decide), owns_keep hr1 grown_set (fun k hk e => by cases e; exact owns_ne hr1 hb1 (by decide) hk)⟩, hbel.setCell (p := ⟨R, 0, none⟩) h.le _⟩
  rw [heap_setCell_same w1 R 0 _ _ _ hb1]; rfl

theorem Sr.addK {w w1 : World} {B R g gN N capN cap u : Nat} {vO : Value} {ns : List Nd} {op : List Nat} {n : Nd} {p : Int} (h : Sr w B R (.slice (some ⟨gN, 0, none⟩) N capN) vO ns op) (hu : ns[u]? = some n) (hg : w.grownBy w1 n.v.ownBlock)
    (ho : RowI w1 B (.slice (some ⟨g, 0, none⟩) (n.ks.length + 1) cap) (n.ks ++ [p])) (hat : n.v.ownBlock = some g ∨ w.heap.size ≤ g) (hp : in64 p) (hl : n.ks.length < 2000) :
    Sr (w1.setCell ⟨gN, u * 2 + 1, none⟩ (.slice (some ⟨g, 0, none⟩) (n.ks.length + 1) cap)) B R (.slice (some ⟨gN, 0, none⟩) N capN) vO (ns.set u ⟨n.txt, some ⟨g, 0, none⟩, cap, n.ks ++ [p]⟩) op ∧ Below B w (w1.setCell ⟨gN, u * 2 + 1, none⟩ (.slice (some ⟨g, 0, none⟩) (n.ks.length + 1) cap)) := by
  obtain ⟨hBN, hgN, csN, frN, hbN⟩ := owns_typed h.nodes.row (k := gN) rfl
  have hSN : R ≠ gN := fun e => by rw [← e, h.blk] at hbN; cases hbN
  have hb1 : w1.heap[R]? = some (.cells #[.slice (some ⟨gN, 0, none⟩) N capN, vO] 72 (0, 0)) := by
    rw [hg.block R h.lt (fun e => owns_ne (h.nodes.kid u n hu) h.blk (by decide) e.symm)]
    exact h.blk
  have hr1 : RowJ w1 B vO (oi op) := owns_keep h.row hg (fun k hk e => by
    obtain ⟨-, -, cs, fr, hb⟩ := owns_typed (h.nodes.kid u n hu) e.symm
    exact owns_ne h.row hb (by decide) hk)
  have hbel := Below_grown hg (h.nodes.kid u n hu) h.size
  have hbN1 : w1.heap[gN]? = some (.cells csN 59 frN) := by
    rw [hg.block gN hgN (fun e => owns_ne (h.nodes.kid u n hu) hbN (by decide) e.symm)]
    exact hbN
  refine ⟨⟨h.le, Nat.le_trans h.size (by simpa using hg.size), ?_, h.nodes.addKid hu hg ho hat hp hl, owns_keep hr1 grown_set (fun k hk e => by cases e; exact owns_ne hr1 hbN1 (by decide) hk)⟩, hbel.setCell (p := ⟨gN, u * 2 + 1, none⟩) hBN _⟩
  rw [heap_setCell_other _ _ _ _ (by exact hSN)]; exact hb1

theorem Sr.pushO {w w1 : World} {B R g cap u : Nat} {vN vO : Value} {ns : List Nd} {op : List Nat} (h : Sr w B R vN vO ns op) (hg : w.grownBy w1 vO.ownBlock)
    (ho : RowJ w1 B (.slice (some ⟨g, 0, none⟩) ((oi op).length + 1) cap) (oi op ++ [(u : Int)])) :
    Sr (w1.setCell ⟨R, 1, none⟩ (.slice (some ⟨g, 0, none⟩) ((oi op).length + 1) cap)) B R vN (.slice (some ⟨g, 0, none⟩) ((oi op).length + 1) cap) ns (u :: op) ∧ Below B w (w1.setCell ⟨R, 1, none⟩ (.slice (some ⟨g, 0, none⟩) ((oi op).length + 1) cap)) := by
  have hb1 : w1.heap[R]? = some (.cells #[vN, vO] 72 (0, 0)) := by
    rw [hg.block R h.lt (fun e => owns_ne h.row h.blk (by decide) e.symm)]
    exact h.blk
  have hn1 : ONs w1 B vN ns := h.nodes.keep hg (fun k hk e => by
      obtain ⟨-, -, cs, fr, hb⟩ := owns_typed h.row e.symm
      exact owns_ne h.nodes.row hb (by decide) hk) (fun i n k hi hk e => by
      obtain ⟨-, -, cs, fr, hb⟩ := owns_typed h.row e.symm
      exact owns_ne (h.nodes.kid i n hi) hb (by decide) hk)
  have hbel := Below_grown hg h.row h.size
  refine ⟨⟨h.le, Nat.le_trans h.size (by simpa using hg.size), ?_, hn1.other grown_set hb1 (by decide) (by decide), ?_⟩, hbel.setCell (p := ⟨R, 1, none⟩) h.le _⟩
  · rw [heap_setCell_same w1 R 1 _ _ _ hb1]; rfl
  · rw [oi_cons]
    exact owns_keep ho grown_set (fun k hk e => by cases e; exact owns_ne ho hb1 (by decide) hk)

theorem Sr.popO {w : World} {B R u : Nat} {vN vO : Value} {ns : List Nd} {op : List Nat} (h : Sr w B R vN vO ns (u :: op)) :
    ∃ g c, vO = .slice (some ⟨g, 0, none⟩) (op.length + 1) c ∧ op.length + 1 ≤ c ∧ c ≤ maxLen ∧ w.cell? ⟨g, op.length, none⟩ = some (.int .i64 (u : Int)) ∧ Sr (w.setCell ⟨R, 1, none⟩ (.slice (some ⟨g, 0, none⟩) op.length c)) B R vN (.slice (some ⟨g, 0, none⟩) op.length c) ns op ∧ Below B w (w.setCell ⟨R, 1, none⟩ (.slice (some ⟨g, 0, none⟩) op.length c)) := by
  have hr := h.row
  rcases hr.2 with ⟨-, h'⟩ | ⟨g, c, cur, rfl, hB, hh, h1, h2, h3, h4⟩
  · rw [oi_len] at h'; simp at h'
  · have hcell : w.cell? ⟨g, op.length, none⟩ = some (.int .i64 (u : Int)) := by
      have := World.ownsRow.cellAt hr op.length (by simp [oi_len])
      rw [this, oi_cons]
      simp [ints, oi_len]
    rw [oi_len, List.length_cons] at h1
    refine ⟨g, c, by rw [oi_len]; rfl, h1, h2, hcell, ⟨h.le, by simpa using h.size, ?_, h.nodes.other grown_set h.blk (by decide) (by decide), ?_⟩, (Below.refl B w).setCell (p := ⟨R, 1, none⟩) h.le _⟩
    · rw [heap_setCell_same w R 1 _ _ _ h.blk]; rfl
    · have hne : g ≠ R := fun e => by rw [e, h.blk] at hh; cases hh
      refine ⟨by simp [ints, oi_len], .inr ⟨g, c, cur, by rw [oi_len], hB, ?_, by rw [oi_len]; omega, h2, h3, ?_⟩⟩
      · rw [heap_setCell_other _ _ _ _ (by exact hne)]; exact hh
      · have hl0 : (oi (u :: op)).length * 1 = op.length + 1 := by rw [oi_len]; simp
        have hl1 : (oi op).length * 1 = op.length := by rw [oi_len]; simp
        rw [hl0, oi_cons] at h4
        rw [hl1]
        have := congrArg (List.take op.length) h4
        rw [List.take_take, Nat.min_eq_left (by omega)] at this
        rw [this]
        have hlen : (ints (oi op)).length = op.length := by simp [ints, oi_len]
        simp only [ints, List.map_append]
        exact List.take_left' hlen

/-- 'append(open, k)', the row the call's own. -/
theorem wpList_appJ (w : World) {ops : Array Oper} {rest : List Oper} {o : Oper} {a : Act} {Q : Exit → Act → World → Prop} (hgd : o.guard = none) (s x : Operand)
    (ho : o.op = .call { callee := .builtin .append, args := #[s, x], argTypes := #[70, 70] })
    (base : Nat) (v : Value) (ks : List Int) (k : Int) (hs : a.eval s = v) (hown : RowJ w base v ks) (b c : Nat) (hx : a.eval x = .slice (some ⟨b, 0, none⟩) 1 c)
    (h0 : w.cell? ⟨b, 0, none⟩ = some (.int .i64 k)) (hl : ks.length ≤ 100000) (hbase : base ≤ w.heap.size)
    (h : ∀ g cap w', RowJ w' base (.slice (some ⟨g, 0, none⟩) (ks.length + 1) cap) (ks ++ [k]) → w.grownBy w' v.ownBlock → wpList Try.prog ops Q rest (a.put o.dst (.slice (some ⟨g, 0, none⟩) (ks.length + 1) cap)) w') :
    wpList Try.prog ops Q (o :: rest) a w := by
  obtain ⟨i0, hi, hz0, hz1, hz2⟩ := info_parts Try.infoInt
  refine wpList_append_lies w hgd s x 70 ho base 3 i0 _ 1 8 Try.underlying70 hi hz0 hz1 hz2 rfl (by decide) v ks.length (ints ks) hs hown ⟨b, 0, none⟩ 1 c [.int .i64 k] hx rfl ?_ ?_ (by decide) ?_ ?_ hbase _ rfl ?_
  · intro j u hj
    match j, hj with
    | 0, hj => simp at hj; subst hj; exact h0
    | j + 1, hj => simp at hj
  · intro u hu
    simp at hu
    subst hu
    rfl
  · unfold maxLen; omega
  · omega
  · intro g cap w' h1 h2 h3 _
    refine h g cap w' ?_ h2
    unfold RowJ
    simpa [ints] using h1

/-- The same at a step of a region that draws its order. -/
theorem step_appJ (w : World) {ops : Array Oper} {o : Oper} {a : Act} {K : Act → World → Prop} {Q : Exit → Act → World → Prop} {E : Prop} (hgd : o.guard = none) (s x : Operand)
    (ho : o.op = .call { callee := .builtin .append, args := #[s, x], argTypes := #[70, 70] })
    (base : Nat) (v : Value) (ks : List Int) (k : Int) (hs : a.eval s = v) (hown : RowJ w base v ks) (b c : Nat) (hx : a.eval x = .slice (some ⟨b, 0, none⟩) 1 c)
    (h0 : w.cell? ⟨b, 0, none⟩ = some (.int .i64 k)) (hl : ks.length ≤ 100000) (hbase : base ≤ w.heap.size)
    (h : ∀ g cap w', RowJ w' base (.slice (some ⟨g, 0, none⟩) (ks.length + 1) cap) (ks ++ [k]) → w.grownBy w' v.ownBlock → K (a.put o.dst (.slice (some ⟨g, 0, none⟩) (ks.length + 1) cap)) w') :
    if Region.wanted o (yielded ops a.tmps) = true then Oper.wp Try.prog o a w K Q else E := by
  obtain ⟨i0, hi, hz0, hz1, hz2⟩ := info_parts Try.infoInt
  refine step_append_lies w hgd s x 70 ho base 3 i0 _ 1 8 Try.underlying70 hi hz0 hz1 hz2 rfl (by decide) v ks.length (ints ks) hs hown ⟨b, 0, none⟩ 1 c [.int .i64 k] hx rfl ?_ ?_ (by decide) ?_ ?_ hbase _ rfl ?_
  · intro j u hj
    match j, hj with
    | 0, hj => simp at hj; subst hj; exact h0
    | j + 1, hj => simp at hj
  · intro u hu
    simp at hu
    subst hu
    rfl
  · unfold maxLen; omega
  · omega
  · intro g cap w' h1 h2 h3 _
    refine h g cap w' ?_ h2
    unfold RowJ
    simpa [ints] using h1

end Go.Proofs.Yteainbakfeedpaa
