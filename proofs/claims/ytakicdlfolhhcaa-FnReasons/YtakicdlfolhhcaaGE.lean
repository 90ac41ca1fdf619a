/- One more knot; one more tie on the trail. -/
import Derived.Test.YtakicdlfolhhcaaGD
import Derived.Test.YtakicdlfolhhcaaRX
namespace Go.Proofs.Ytakicdlfolhhcaa
set_option linter.unusedVariables false
set_option linter.unusedSimpArgs false
open Go.RowKit

theorem Try.infoPK : (Try.prog.info? 70).map (fun i => (i.zero, i.size, i.bytes)) = some (some (.pointer none), 1, 8) := by kernel_rfl
theorem Try.infoPT : (Try.prog.info? 85).map (fun i => (i.zero, i.size, i.bytes)) = some (some (.pointer none), 1, 8) := by kernel_rfl

/-- 'append(row, p)' of an owned row of pointers. -/
theorem wpList_appK {w : World} {ops : Array Oper} {rest : List Oper} {o : Oper} {a : Act} {Q : Exit → Act → World → Prop} (hgd : o.guard = none) (s x : Operand)
    (ho : o.op = .call { callee := .builtin .append, args := #[s, x], argTypes := #[73, 73] })
    (B : Nat) (v : Value) (xs : List Value) (y : Addr) (hs : a.eval s = v) (hown : w.ownsRow B 70 1 v xs.length xs) (gx : Nat) (hx : a.eval x = .slice (some ⟨gx, 0, none⟩) 1 1)
    (h0 : w.cell? ⟨gx, 0, none⟩ = some (.pointer (some y))) (hl : xs.length ≤ 1073741824) (hB : B ≤ w.heap.size)
    (h : ∀ v' w', w'.ownsRow B 70 1 v' (xs ++ [Value.pointer (some y)]).length (xs ++ [Value.pointer (some y)]) → w.grownBy w' v.ownBlock → (v'.ownBlock = v.ownBlock ∨ v'.ownBlock = some w.heap.size) → wpList Try.prog ops Q rest (a.put o.dst v') w') : wpList Try.prog ops Q (o :: rest) a w := by
  obtain ⟨i0, hi, hz0, hz1, hz2⟩ := info_parts Try.infoPK
  refine wpList_append_own_at w hgd s x 73 ho B 70 i0 _ 1 8 Try.underlying73 hi hz0 hz1 hz2 rfl (by decide) v xs.length xs hs hown ⟨gx, 0, none⟩ 1 1 [.pointer (some y)] hx rfl ?_ ?_ (by unfold maxLen; omega) (by omega) hB ?_
  · intro j u hj
    rw [Addr.add_lit]
    match j, hj with
    | 0, hj => simp at hj; subst hj; exact h0
    | j + 1, hj => simp at hj
  · intro u hu
    simp at hu
    subst hu
    rfl
  · intro v' w' ho' hg _ hat
    exact h v' w' (by simpa using ho') hg hat

/-- 'append(row, p)' of an owned row of pointers. -/
theorem wpList_appT {w : World} {ops : Array Oper} {rest : List Oper} {o : Oper} {a : Act} {Q : Exit → Act → World → Prop} (hgd : o.guard = none) (s x : Operand)
    (ho : o.op = .call { callee := .builtin .append, args := #[s, x], argTypes := #[69, 69] })
    (B : Nat) (v : Value) (xs : List Value) (y : Addr) (hs : a.eval s = v) (hown : w.ownsRow B 85 1 v xs.length xs) (gx : Nat) (hx : a.eval x = .slice (some ⟨gx, 0, none⟩) 1 1)
    (h0 : w.cell? ⟨gx, 0, none⟩ = some (.pointer (some y))) (hl : xs.length ≤ 1073741824) (hB : B ≤ w.heap.size)
    (h : ∀ v' w', w'.ownsRow B 85 1 v' (xs ++ [Value.pointer (some y)]).length (xs ++ [Value.pointer (some y)]) → w.grownBy w' v.ownBlock → (v'.ownBlock = v.ownBlock ∨ v'.ownBlock = some w.heap.size) → wpList Try.prog ops Q rest (a.put o.dst v') w') : wpList Try.prog ops Q (o :: rest) a w := by
  obtain ⟨i0, hi, hz0, hz1, hz2⟩ := info_parts Try.infoPT
  refine wpList_append_own_at w hgd s x 69 ho B 85 i0 _ 1 8 Try.underlying69 hi hz0 hz1 hz2 rfl (by decide) v xs.length xs hs hown ⟨gx, 0, none⟩ 1 1 [.pointer (some y)] hx rfl ?_ ?_ (by unfold maxLen; omega) (by omega) hB ?_
  · intro j u hj
    rw [Addr.add_lit]
    match j, hj with
    | 0, hj => simp at hj; subst hj; exact h0
    | j + 1, hj => simp at hj
  · intro u hu
    simp at hu
    subst hu
    rfl
  · intro v' w' ho' hg _ hat
    exact h v' w' (by simpa using ho') hg hat

theorem own_form {w : World} {B n : Nat} {e : TypeId} {v x : Value} {xs : List Value} (h : w.ownsRow B e 1 v n (xs ++ [x])) : ∃ g cap N, v = .slice (some ⟨g, 0, none⟩) N cap := by
  rcases h.2 with ⟨-, hn⟩ | ⟨g, cap, cur, e, -⟩
  · have := h.1
    simp at this
    omega
  · exact ⟨g, cap, _, e⟩

theorem add_any {w : World} {B G M : Nat} {ps : List Nat} {kv : Value} (h : Gv w B G M (Gs.fresh ps kv)) (hl : ps.length ≤ 1000) :
    Calls Try.prog 64 #[pt G] w fun e w' => ∃ p v, e = .returned (pt p) ∧ Gv w' B G M (Gs.fresh (ps ++ [p]) v) ∧ Below B w w' := by
  obtain ⟨a, c, e, -⟩ := h.kform
  have e' : kv = .slice a ps.length c := e
  have q0 : w.cell? ⟨G, 0, none⟩ = some (.slice a ps.length c) := by rw [cell_of h.gb, ← e']; rfl
  have HH := kide h
  clear h e
  have hb1 : Below w.heap.size w (w.alloc (Obj.cells #[.int .i64 (ps.length : Int), .slice none 0 0, .pointer none, .int .i64 1, .int .i64 (ps.length : Int)] 72)) := (Below.refl _ _).alloc (Nat.le_refl _) _
  have hG1 := lt_of_block HH.out.gb
  have hBG := HH.out.lo
  have q1 : (w.alloc (Obj.cells #[.int .i64 (ps.length : Int), .slice none 0 0, .pointer none, .int .i64 1, .int .i64 (ps.length : Int)] 72)).cell? ⟨G, 0, none⟩ = some (.slice a ps.length c) := by rw [kcell hb1 _ _ hG1]; exact q0
  have H1 := kide (HH.out.later hb1)
  have hnew : Hid ((w.alloc (Obj.cells #[.int .i64 (ps.length : Int), .slice none 0 0, .pointer none, .int .i64 1, .int .i64 (ps.length : Int)] 72)).heap[w.heap.size]? = some (Obj.cells #[.int .i64 (ps.length : Int), .slice none 0 0, .pointer none, .int .i64 1, .int .i64 (ps.length : Int)] 72)) := heap_alloc_new _ _
  have B1 := kide hb1
  unfold pt
  clear hb1
  have hlm : (ps.map pt).length ≤ 1073741824 := by simp; omega
  have hkr : Hid (∀ o, ((w.alloc (Obj.cells #[.int .i64 (ps.length : Int), .slice none 0 0, .pointer none, .int .i64 1, .int .i64 (ps.length : Int)] 72)).alloc o).ownsRow B 70 1 (.slice a ps.length c) (ps.map pt).length (ps.map pt)) := fun o => by
    have h1 : (w.alloc (Obj.cells #[.int .i64 (ps.length : Int), .slice none 0 0, .pointer none, .int .i64 1, .int .i64 (ps.length : Int)] 72)).ownsRow B 70 1 kv ps.length (ps.map pt) := H1.out.kr
    rw [e'] at h1
    have h2 := World.ownsRow.alloc h1 o
    simpa using h2
  go_enter Try.func64, Try.ntmps64
  go_wp2_with (at_builtin; refine wpList_appK rfl _ _ rfl B _ (ps.map pt) ⟨w.heap.size, 0, none⟩ rfl (hkr.out _) _ rfl (by simp) hlm (by simp; omega) ?_)
  intro v2 w2 hos hg hat
  obtain ⟨g2', c2', N2, rfl⟩ := own_form hos
  have hb2 : Below (w.heap.size + 1) (w.alloc (Obj.cells #[.int .i64 (ps.length : Int), .slice none 0 0, .pointer none, .int .i64 1, .int .i64 (ps.length : Int)] 72)) ((w.alloc (Obj.cells #[.int .i64 (ps.length : Int), .slice none 0 0, .pointer none, .int .i64 1, .int .i64 (ps.length : Int)] 72)).alloc (Obj.cells #[Value.pointer (some ⟨w.heap.size, 0, none⟩)] 70)) := (Below.refl _ _).alloc (by simp) _
  have H2 := kide (H1.out.later (by simpa using hb2))
  have hnew2 : Hid (((w.alloc (Obj.cells #[.int .i64 (ps.length : Int), .slice none 0 0, .pointer none, .int .i64 1, .int .i64 (ps.length : Int)] 72)).alloc (Obj.cells #[Value.pointer (some ⟨w.heap.size, 0, none⟩)] 70)).heap[w.heap.size]? = some (Obj.cells #[.int .i64 (ps.length : Int), .slice none 0 0, .pointer none, .int .i64 1, .int .i64 (ps.length : Int)] 72)) := by
    show _ = _
    rw [hb2.block _ (by omega)]; exact hnew.out
  have BB : Hid (Below B w w2) := by
    have h1 : Below B w ((w.alloc (Obj.cells #[.int .i64 (ps.length : Int), .slice none 0 0, .pointer none, .int .i64 1, .int .i64 (ps.length : Int)] 72)).alloc (Obj.cells #[Value.pointer (some ⟨w.heap.size, 0, none⟩)] 70)) := ((Below.refl _ _).alloc (by omega) _).alloc (by simp; omega) _
    refine Below.grown h1 hg (by simp; omega) (fun j hj => ?_)
    rw [← e'] at hj
    exact (own_lt H2.out.kr hj).1
  have hfin : Hid (Gv (w2.setCell ⟨G, 0, none⟩ (.slice (some ⟨g2', 0, none⟩) N2 c2')) B G M (Gs.fresh (ps ++ [w.heap.size]) (.slice (some ⟨g2', 0, none⟩) N2 c2'))) := by
    rw [← e'] at hg
    refine H2.out.added hg ?_ (by omega) hnew2.out
    have : (ps ++ [w.heap.size]).map pt = ps.map pt ++ [Value.pointer (some ⟨w.heap.size, 0, none⟩)] := by simp [pt]
    rw [this]
    simpa using hos
  have hG2 : w2.heap[G]? = some (.cells #[kv, .slice none 0 0] 77 (0, 0)) := by
    rw [← e'] at hg
    rw [hg.block G (lt_of_block H2.out.gb) (own_typed H2.out.kr H2.out.gb (by decide))]
    exact H2.out.gb
  have g2 : w2.cell? ⟨G, 0, none⟩ = some kv := by rw [cell_of hG2]; rfl
  have r2 : w2.frozen? ⟨G, 0, none⟩ = false := frozen_of_row w2 G 0 _ _ hG2
  clear hos hg hat hb2 H1 H2 hnew hnew2 hkr q0 q1 HH B1 hG2
  go_wp2_with fail
  go_ret
  exact ⟨_, _, rfl, hfin.out, BB.out.setCell hBG _⟩

/-- Blocks of other types than knots, rows of ties and groves are as they were. -/
def Kt (w u : World) : Prop := ∀ (b : Nat) (cs : Array Value) (t : TypeId), w.heap[b]? = some (.cells cs t (0, 0)) → t ≠ 72 → t ≠ 85 → t ≠ 77 → u.heap[b]? = some (.cells cs t (0, 0))
theorem Kt.refl (w : World) : Kt w w := fun _ _ _ h _ _ _ => h
theorem Kt.trans {w u v : World} (h : Kt w u) (h' : Kt u v) : Kt w v := fun b cs t hb h1 h2 h3 => h' b cs t (h b cs t hb h1 h2 h3) h1 h2 h3
theorem Kt.of_below {w u : World} (h : Below w.heap.size w u) : Kt w u := fun b cs t hb _ _ _ => by rw [h.block b (lt_of_block hb)]; exact hb
theorem Kt.later {w u u' : World} (h : Kt w u) (hb : Below u.heap.size u u') : Kt w u' := h.trans (Kt.of_below hb)
theorem Kt.set {w u : World} (h : Kt w u) {p o : Nat} {c : Array Value} {t' : TypeId} (hp : u.heap[p]? = some (.cells c t' (0, 0))) (ht : t' = 72 ∨ t' = 77) (x : Value) : Kt w (u.setCell ⟨p, o, none⟩ x) := fun b cs t hb h1 h2 h3 => by
  have h4 := h b cs t hb h1 h2 h3
  rw [heap_setCell_other _ _ _ _ (fun e => by
    have e' : b = p := e
    subst e'
    rw [hp] at h4
    cases h4
    rcases ht with e | e
    · exact h1 e
    · exact h3 e)]
  exact h4
theorem Kt.grown {w u u' : World} (h : Kt w u) {B n : Nat} {v : Value} {xs : List Value} (ho : u.ownsRow B 85 1 v n xs) (hg : u.grownBy u' v.ownBlock) : Kt w u' := fun b cs t hb h1 h2 h3 => by
  have h4 := h b cs t hb h1 h2 h3
  rw [hg.block b (lt_of_block h4) (own_typed ho h4 h2)]
  exact h4

/-- How long a slice is. -/
def lenV : Value → Nat
  | .slice _ n _ => n
  | _ => 0
theorem own_lenV {w : World} {B n : Nat} {e : TypeId} {v : Value} {xs : List Value} (h : w.ownsRow B e 1 v n xs) : lenV v = n := by
  rcases h.2 with ⟨rfl, h0⟩ | ⟨g, cap, cur, rfl, -⟩
  · exact h0.symm
  · rfl

theorem push_any {w : World} {B G M t : Nat} {s : Gs} {l : Lk} {f : Value} (h : Gv w B G M s) (hn : s.ts.length = s.ls.length) (hi : s.ic = s.iv) (hl : s.ts.length ≤ 1048576) (hB : B ≤ t)
    (ht : w.heap[t]? = some (.cells #[pt (s.ps.getD l.1.toNat 0), pt (s.ps.getD l.2.1.toNat 0), .int .i64 l.2.2, f] 97 (0, 0))) :
    Calls Try.prog 67 #[.pointer (some ⟨G, 1, none⟩), pt t] w fun e w' => e = .returned (.tuple #[]) ∧ ∃ v, Gv w' B G M { s with ic := v, iv := v, ts := s.ts ++ [t], ls := s.ls ++ [l] } ∧ Below B w w' ∧ Kt w w' := by
  obtain ⟨a, c, e⟩ : ∃ a c, s.iv = .slice a s.ts.length c := by
    rcases h.ir.2 with ⟨e, hn⟩ | ⟨g, cap, cur, e, -⟩
    · exact ⟨none, 0, by rw [e, hn]⟩
    · exact ⟨_, _, e⟩
  have q0 : w.cell? ⟨G, 1, none⟩ = some (.slice a s.ts.length c) := by rw [cell_of h.gb, ← e, ← hi]; rfl
  have hG1 := lt_of_block h.gb
  have hBG := h.lo
  have hlm : (s.ts.map pt).length ≤ 1073741824 := by simp; omega
  have hkr : Hid (∀ o, (w.alloc o).ownsRow B 85 1 (.slice a s.ts.length c) (s.ts.map pt).length (s.ts.map pt)) := fun o => by
    have h1 := h.ir
    rw [e] at h1
    have h2 := World.ownsRow.alloc h1 o
    simpa using h2
  have HH := kide h
  have HN := kide hn
  have HT := kide ht
  have HE := kide e
  clear h hn ht e hi
  unfold pt
  generalize s.ts.length = n at q0 hkr hl HE
  go_enter Try.func67, Try.ntmps67
  go_wp2_with (at_builtin; refine wpList_appT rfl _ _ rfl B _ (s.ts.map pt) ⟨t, 0, none⟩ rfl (hkr.out _) _ rfl (by simp) hlm (by simp; omega) ?_)
  intro v2 w2 hos hg hat
  obtain ⟨g2', c2', N2, rfl⟩ := own_form hos
  have hb1 : Below w.heap.size w (w.alloc (Obj.cells #[Value.pointer (some ⟨t, 0, none⟩)] 85)) := (Below.refl _ _).alloc (Nat.le_refl _) _
  have H1 := kide (HH.out.later hb1)
  have hT1 : Hid ((w.alloc (Obj.cells #[Value.pointer (some ⟨t, 0, none⟩)] 85)).heap[t]? = some (.cells #[pt (s.ps.getD l.1.toNat 0), pt (s.ps.getD l.2.1.toNat 0), .int .i64 l.2.2, f] 97 (0, 0))) := by
    show _ = _
    rw [hb1.block _ (lt_of_block HT.out)]; exact HT.out
  rw [← HE.out] at hg hat
  have BB : Hid (Below B w w2) := by
    have h1 : Below B w (w.alloc (Obj.cells #[Value.pointer (some ⟨t, 0, none⟩)] 85)) := (Below.refl _ _).alloc (by omega) _
    exact Below.grown h1 hg (by simp; omega) (fun j hj => (own_lt H1.out.ir hj).1)
  have hfin : Hid (Gv w2 B G M { s with iv := .slice (some ⟨g2', 0, none⟩) N2 c2', ts := s.ts ++ [t], ls := s.ls ++ [l] }) := by
    refine H1.out.pushed HN.out hg ?_ (by simpa using hat) hB hT1.out
    have : (s.ts ++ [t]).map pt = s.ts.map pt ++ [Value.pointer (some ⟨t, 0, none⟩)] := by simp [pt]
    rw [this]
    simpa using hos
  have g2 : w2.cell? ⟨G, 1, none⟩ = some s.ic := by rw [cell_of hfin.out.gb]; rfl
  have r2 : w2.frozen? ⟨G, 1, none⟩ = false := frozen_of_row w2 G 1 _ _ hfin.out.gb
  have hkt : Hid (Kt w w2) := (Kt.of_below hb1).grown H1.out.ir hg
  clear hos hg hat hb1 H1 hT1 hkr q0 HH
  go_wp2_with fail
  go_end0
  exact ⟨rfl, _, hfin.out.setIc _, BB.out.setCell hBG _, hkt.out.set hfin.out.gb (.inr rfl) _⟩

end Go.Proofs.Ytakicdlfolhhcaa
