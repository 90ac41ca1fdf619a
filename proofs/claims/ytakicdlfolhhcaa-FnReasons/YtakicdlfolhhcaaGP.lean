/- A grove told as a forest. -/
import Derived.Test.YtakicdlfolhhcaaGL
namespace Go.Proofs.Ytakicdlfolhhcaa
set_option linter.unusedVariables false
set_option linter.unusedSimpArgs false
open Go.RowKit

/-- The cells of links. -/
def lkc : List Lk → List Value
  | [] => []
  | l :: t => .int .i64 l.1 :: .int .i64 l.2.1 :: .int .i64 l.2.2 :: lkc t
theorem lkc_len (ls : List Lk) : (lkc ls).length = ls.length * 3 := by
  induction ls with
  | nil => rfl
  | cons l t ih => simp [lkc, ih]; omega
theorem lkc_append (xs ys : List Lk) : lkc (xs ++ ys) = lkc xs ++ lkc ys := by
  induction xs with
  | nil => rfl
  | cons l t ih => simp [lkc, ih]

/-- An owned row of links. -/
def OK3 (w : World) (B : Nat) (v : Value) (ls : List Lk) : Prop := w.ownsRow B 55 3 v ls.length (lkc ls)

theorem own3_later {w w' : World} {B n : Nat} {e : TypeId} {v : Value} {xs : List Value} (h : w.ownsRow B e 3 v n xs) (hb : Below w.heap.size w w') : w'.ownsRow B e 3 v n xs := World.ownsRow.kept (row := none) h ⟨hb.os, hb.tape, hb.output, hb.size, fun k hk _ => hb.block k hk⟩ (by
  cases h' : v.ownBlock with
  | none => exact .inl rfl
  | some k => exact .inr (by simp))

theorem own3_lt {w : World} {B n : Nat} {e : TypeId} {v : Value} {xs : List Value} {b : Nat} (h : w.ownsRow B e 3 v n xs) (hb : v.ownBlock = some b) : B ≤ b ∧ b < w.heap.size := by
  rcases h.2 with ⟨rfl, -⟩ | ⟨g, cap, cur, rfl, hg, hh, -⟩
  · cases hb
  · cases hb
    exact ⟨hg, lt_of_block hh⟩

theorem own3_typed {w : World} {B n : Nat} {e t : TypeId} {v : Value} {xs : List Value} {b : Nat} {cs : Array Value} {fr : Nat × Nat} (h : w.ownsRow B e 3 v n xs) (hb : w.heap[b]? = some (.cells cs t fr)) (ht : t ≠ e) : some b ≠ v.ownBlock := fun hk => by
  rcases h.2 with ⟨rfl, -⟩ | ⟨g, cap, cur, rfl, hg, hh, -⟩
  · cases hk
  · cases hk
    rw [hb] at hh
    cases hh
    exact ht rfl

theorem own3_set {w : World} {B n : Nat} {e t : TypeId} {v : Value} {xs : List Value} {b o : Nat} {cs : Array Value} {fr : Nat × Nat} (h : w.ownsRow B e 3 v n xs) (hb : w.heap[b]? = some (.cells cs t fr)) (ht : t ≠ e) (x : Value) : (w.setCell ⟨b, o, none⟩ x).ownsRow B e 3 v n xs := by
  have hne := own3_typed h hb ht
  refine ⟨h.1, ?_⟩
  rcases h.2 with hn | ⟨g, cap, cur, rfl, hg, hh, rest⟩
  · exact .inl hn
  · refine .inr ⟨g, cap, cur, rfl, hg, ?_, rest⟩
    rw [heap_setCell_other _ _ _ _ (fun e => hne (by simp [Value.ownBlock, e]))]
    exact hh

theorem Bx.far3 {u u' : World} {b B n : Nat} {cs : Array Value} {t e : TypeId} {v : Value} {xs : List Value} (h : Bx u b cs t) (ho : u.ownsRow B e 3 v n xs) (hg : u.grownBy u' v.ownBlock) (hn : t ≠ e) : Bx u' b cs t := by
  unfold Bx
  rw [hg.block b h.lt (own3_typed ho h hn)]
  exact h

theorem step_appL (w : World) {ops : Array Oper} {o : Oper} {a : Act} {K : Act → World → Prop} {Q : Exit → Act → World → Prop} {E : Prop} (hgd : o.guard = none) (s x : Operand)
    (ho : o.op = .call { callee := .builtin .append, args := #[s, x], argTypes := #[27, 27] })
    (base : Nat) (v : Value) (ls : List Lk) (l : Lk) (hs : a.eval s = v) (hown : OK3 w base v ls) (b c : Nat) (hx : a.eval x = .slice (some ⟨b, 0, none⟩) 1 c)
    (h0 : w.cell? ⟨b, 0, none⟩ = some (.int .i64 l.1)) (h1 : w.cell? ⟨b, 1, none⟩ = some (.int .i64 l.2.1)) (h2 : w.cell? ⟨b, 2, none⟩ = some (.int .i64 l.2.2)) (hl : ls.length ≤ 1073741824) (hbase : base ≤ w.heap.size)
    (h : ∀ g cap N w', OK3 w' base (.slice (some ⟨g, 0, none⟩) N cap) (ls ++ [l]) → w.grownBy w' v.ownBlock → K (a.put o.dst (.slice (some ⟨g, 0, none⟩) N cap)) w') :
    if Region.wanted o (yielded ops a.tmps) = true then Oper.wp Try.prog o a w K Q else E := by
  obtain ⟨i0, hi, hz0, hz1, hz2⟩ := info_parts Try.infoLink
  refine step_append_lies w hgd s x 27 ho base 55 i0 _ 3 24 Try.underlying27 hi hz0 hz1 hz2 rfl (by decide) v ls.length (lkc ls) hs hown ⟨b, 0, none⟩ 1 c (lkc [l]) hx rfl ?_ ?_ (by decide) ?_ ?_ hbase _ rfl ?_
  · intro j u hj
    rw [Addr.add_lit]
    match j, hj with
    | 0, hj => simp [lkc] at hj; subst hj; exact h0
    | 1, hj => simp [lkc] at hj; subst hj; exact h1
    | 2, hj => simp [lkc] at hj; subst hj; exact h2
    | j + 3, hj => simp [lkc] at hj
  · intro u hu
    simp [lkc] at hu
    rcases hu with rfl | rfl | rfl <;> rfl
  · unfold maxLen; omega
  · omega
  · intro g cap w' h1 h2 _ _
    refine h g cap _ w' ?_ h2
    unfold OK3
    rw [lkc_append, List.length_append]
    exact h1

set_option maxHeartbeats 2000000 in
set_option maxRecDepth 100000 in
theorem forest_any (G : Nat) (w : World) (B M : Nat) (s : Gs) (h : Gv w B G M s) (hN : Nl s) (hl : s.ls.length ≤ 1048576) (hp : s.ps.length ≤ 1000) (hls : ∀ l ∈ s.ls, (0 ≤ l.1 ∧ l.1 < (s.ps.length : Int)) ∧ 0 ≤ l.2.1 ∧ l.2.1 < (s.ps.length : Int)) :
    Calls Try.prog 51 #[.pointer (some ⟨G, 0, none⟩)] w fun e w' => ∃ v, e = .returned (.agg #[.int .i64 (s.ps.length : Int), v]) ∧ OK3 w' (w.heap.size + 2) v s.ls ∧ Below w.heap.size w w' := by
  obtain ⟨ka, kc, ek, -⟩ := h.kform
  have q0 : w.cell? ⟨G, 0, none⟩ = some (.slice ka s.ps.length kc) := by rw [h.k0, hN.k, ek]
  have htl : s.ts.length = s.ls.length := hN.n
  obtain ⟨ia, ic, ei, hic⟩ : ∃ a c, s.iv = .slice a s.ls.length c ∧ ∀ k t, s.ts[k]? = some t → ∃ g, a = some ⟨g, 0, none⟩ ∧ w.cell? ⟨g, k, none⟩ = some (pt t) := by
    have hcells := fun g hg => World.ownsRow.cells h.ir (g := g) hg
    rcases h.ir.2 with ⟨e, hn⟩ | ⟨g, cap, cur, e, -⟩
    · refine ⟨none, 0, by rw [e, ← htl, hn], fun k t ht => ?_⟩
      have := (List.getElem?_eq_some_iff.1 ht).1
      omega
    · refine ⟨some ⟨g, 0, none⟩, cap, by rw [e, htl], fun k t ht => ⟨g, rfl, ?_⟩⟩
      have c0 := hcells g (by rw [e]; rfl) k (pt t) (by rw [List.getElem?_map, ht]; rfl)
      rw [Addr.add_lit] at c0
      simpa using c0
  have q1 : w.cell? ⟨G, 1, none⟩ = some (.slice ia s.ls.length ic) := by rw [cell_of h.gb, ← ei, ← hN.i]; rfl
  have HG := kide h
  have HN := kide hN
  have HLS := kide hls
  have HIC := kide hic
  have hGl := lt_of_block h.gb
  have hbA : ∀ o, Below w.heap.size w (w.alloc o) := fun o => (Below.refl _ _).alloc (Nat.le_refl _) _
  have q0' : ∀ o, (w.alloc o).cell? ⟨G, 0, none⟩ = some (.slice ka s.ps.length kc) := fun o => by rw [kcell (hbA o) _ _ hGl]; exact q0
  have q1' : ∀ o, (w.alloc o).cell? ⟨G, 1, none⟩ = some (.slice ia s.ls.length ic) := fun o => by rw [kcell (hbA o) _ _ hGl]; exact q1
  obtain ⟨n, hn⟩ : ∃ n, s.ps.length = n := ⟨_, rfl⟩
  obtain ⟨nl, hnl⟩ : ∃ m, s.ls.length = m := ⟨_, rfl⟩
  rw [hn] at q0 q0' hp ⊢
  rw [hnl] at q1 q1' hl
  have HPL := kide hn
  have HLL := kide hnl
  have HTL := kide htl
  have bA : Hid (Below (w.heap.size + 1) (w.alloc (Obj.cells #[.int .i64 0, .slice none 0 0] 29)) ((w.alloc (Obj.cells #[.int .i64 0, .slice none 0 0] 29)).alloc (Obj.cells #[.int .i64 (n : Int), .slice none 0 0] 29))) := (Below.refl _ _).alloc (by simp) _
  have HBW : Hid (∀ u, Below (w.heap.size + 1) (w.alloc (Obj.cells #[.int .i64 0, .slice none 0 0] 29)) u → Below w.heap.size w u) := fun u hu => Below.trans ((Below.refl _ _).alloc (Nat.le_refl _) _) (hu.mono (by omega))
  have HGB : Hid (∀ u, Below (w.heap.size + 1) (w.alloc (Obj.cells #[.int .i64 0, .slice none 0 0] 29)) u → Gv u B G M s) := fun u hu => HG.out.later (HBW.out u hu)
  have hszB : (w.alloc (Obj.cells #[.int .i64 0, .slice none 0 0] 29)).heap.size = w.heap.size + 1 := by simp
  have XRB := kide (Bx.new w #[.int .i64 0, .slice none 0 0] 29)
  have XA : Hid (Bx ((w.alloc (Obj.cells #[.int .i64 0, .slice none 0 0] 29)).alloc (Obj.cells #[.int .i64 (n : Int), .slice none 0 0] 29)) (w.heap.size + 1) #[.int .i64 (n : Int), .slice none 0 0] 29) := by
    have := Bx.new (w.alloc (Obj.cells #[.int .i64 0, .slice none 0 0] 29)) #[.int .i64 (n : Int), .slice none 0 0] 29
    rw [World.size_alloc] at this
    exact this
  clear h hN ek hbA hls hic hn hnl htl ei
  go_enter Try.func51, Try.ntmps51
  go_wp2_with fail
  obtain ⟨F, hF⟩ : ∃ F, w.heap.size + 1 = F := ⟨_, rfl⟩
  rw [hF] at XA bA HBW HGB hszB ⊢
  have HF := kide hF
  generalize (w.alloc (Obj.cells #[.int .i64 0, .slice none 0 0] 29)).alloc (Obj.cells #[.int .i64 (n : Int), .slice none 0 0] 29) = wA at *
  generalize w.alloc (Obj.cells #[.int .i64 0, .slice none 0 0] 29) = wB at *
  have HSB := kide hszB
  clear hszB q0 q1 q0' q1' hF
  go_loopw [18] (fun q wr => ∃ (k : Nat) (vr : Value), k ≤ nl ∧ q = .int .i64 (k : Int) ∧ Bx wr F #[.int .i64 (n : Int), vr] 29 ∧ OK3 wr (F + 1) vr (s.ls.take k) ∧ Below F wB wr) (fun q _ => nl - (intOf q).toNat)
  case atStart => exact ⟨0, _, Nat.zero_le _, rfl, XA.out, ⟨rfl, .inl ⟨rfl, rfl⟩⟩, bA.out⟩
  case round =>
    obtain ⟨k, vr, hk, rfl, hxf, hor, hbb⟩ := hrel
    have XF := kide hxf
    have OR := kide hor
    have BB := kide hbb
    have HGr := kide (HGB.out _ hbb)
    clear hxf hor hbb XA bA
    by_cases hlt : k < nl
    · have i0 : (k : Int) < (nl : Int) := by omega
      obtain ⟨⟨la, lb, ly⟩, gx⟩ : ∃ x, s.ls[k]? = some x := ⟨s.ls[k]'(by rw [HLL.out]; exact hlt), List.getElem?_eq_getElem _⟩
      obtain ⟨tk, gt⟩ : ∃ x, s.ts[k]? = some x := ⟨s.ts[k]'(by rw [HTL.out, HLL.out]; exact hlt), List.getElem?_eq_getElem _⟩
      obtain ⟨q1, q2⟩ := HLS.out _ (List.mem_of_getElem? gx)
      simp only [] at q1 q2
      obtain ⟨na, rfl⟩ : ∃ m : Nat, la = (m : Int) := ⟨la.toNat, by omega⟩
      obtain ⟨nb, rfl⟩ : ∃ m : Nat, lb = (m : Int) := ⟨lb.toNat, by omega⟩
      obtain ⟨pA, hpA⟩ : ∃ p, s.ps[na]? = some p := ⟨s.ps[na]'(by omega), List.getElem?_eq_getElem _⟩
      obtain ⟨pB, hpB⟩ : ∃ p, s.ps[nb]? = some p := ⟨s.ps[nb]'(by omega), List.getElem?_eq_getElem _⟩
      have HPA := kide hpA
      have HPB := kide hpB
      obtain ⟨-, fv, hti⟩ := HGr.out.ti k tk _ gt gx
      have XT : Hid (Bx wr tk #[Value.pointer (some ⟨pA, 0, none⟩), Value.pointer (some ⟨pB, 0, none⟩), .int .i64 ly, fv] 97) := by
        show wr.heap[tk]? = _
        rw [hti]
        simp [pt, hpA, hpB]
      obtain ⟨gi, rfl, hci⟩ := HIC.out k tk gt
      have hci2 : wr.cell? ⟨gi, k, none⟩ = some (Value.pointer (some ⟨tk, 0, none⟩)) := by
        rw [kcell (HBW.out _ BB.out) _ _ (block_lt_of_cell hci)]; exact hci
      have GX := kide gx
      clear gx gt q1 q2 hpA hpB hti hci
      go_wp2_with fail
      refine wp_region_x (SA := fun u => u.cell? ⟨F, 1, none⟩ = some vr ∧ u.cell? ⟨tk, 0, none⟩ = some (Value.pointer (some ⟨pA, 0, none⟩)) ∧ u.cell? ⟨tk, 1, none⟩ = some (Value.pointer (some ⟨pB, 0, none⟩)) ∧ u.cell? ⟨tk, 2, none⟩ = some (Value.int .i64 (ly)) ∧ u.cell? ⟨pA, 0, none⟩ = some (Value.int .i64 ((na : Int))) ∧ u.cell? ⟨pB, 0, none⟩ = some (Value.int .i64 ((nb : Int)))) (SB := fun _ => True) (k := 24) (by kernel_rfl) ?_
      have hbd : Below wr.heap.size wr wr.drew := (Below.refl _ _).drew
      have HGu0 := kide (HGr.out.later hbd)
      have XF0 := kide (XF.out.later hbd)
      have XT0 := kide (XT.out.later hbd)
      have OR0 := kide (own3_later OR.out hbd)
      have BB0 := kide BB.out.drew
      clear hbd
      generalize wr.drew = u0 at *
      have hs0 : Hid ((fun u => u.cell? ⟨F, 1, none⟩ = some vr ∧ u.cell? ⟨tk, 0, none⟩ = some (Value.pointer (some ⟨pA, 0, none⟩)) ∧ u.cell? ⟨tk, 1, none⟩ = some (Value.pointer (some ⟨pB, 0, none⟩)) ∧ u.cell? ⟨tk, 2, none⟩ = some (Value.int .i64 (ly)) ∧ u.cell? ⟨pA, 0, none⟩ = some (Value.int .i64 ((na : Int))) ∧ u.cell? ⟨pB, 0, none⟩ = some (Value.int .i64 ((nb : Int)))) u0) := ⟨XF0.out.cell 1, XT0.out.cell 0, XT0.out.cell 1, XT0.out.cell 2, (HGu0.out.get HPA.out).1, (HGu0.out.get HPB.out).1⟩
      try go_simp
      refine wpAnyX_both (T := fun _ => True) (i := 0) (v := Value.pointer (some ⟨F, 1, none⟩)) rfl (by kernel_rfl) (by kernel_rfl) (by kernel_rfl) (fun _ _ _ h => h) (by decide) (fun _ _ => trivial) (fun _ _ => trivial) (Sx.before (by kernel_rfl) hs0.out) (Or.inl ⟨by rfl, fun u hu => by go_simp⟩) ?_
      try go_simp
      refine wpAnyX_take (i := 1) (v := vr) rfl (by kernel_rfl) (by kernel_rfl) (by kernel_rfl) (fun _ _ _ h => h) (by decide) (by kernel_rfl) (by kernel_rfl) hs0.out (Or.inl ⟨by rfl, fun u hu => by obtain ⟨e1, e2, e3, e4, e5, e6⟩ := hu; go_simp⟩) ?_
      try go_simp
      refine wpAnyX_both (T := fun _ => True) (i := 2) (v := Value.pointer (some ⟨tk, 0, none⟩)) rfl (by kernel_rfl) (by kernel_rfl) (by kernel_rfl) (fun _ _ _ h => h) (by decide) (fun _ _ => trivial) (fun _ _ => trivial) (Sx.before (by kernel_rfl) hs0.out) (Or.inl ⟨by rfl, fun u hu => by go_simp⟩) ?_
      try go_simp
      refine wpAnyX_both (T := fun _ => True) (i := 3) (v := Value.pointer (some ⟨tk, 0, none⟩)) rfl (by kernel_rfl) (by kernel_rfl) (by kernel_rfl) (fun _ _ _ h => h) (by decide) (fun _ _ => trivial) (fun _ _ => trivial) (Sx.before (by kernel_rfl) hs0.out) (Or.inl ⟨by rfl, fun u hu => by go_simp⟩) ?_
      try go_simp
      refine wpAnyX_both (T := fun _ => True) (i := 4) (v := Value.pointer (some ⟨tk, 0, none⟩)) rfl (by kernel_rfl) (by kernel_rfl) (by kernel_rfl) (fun _ _ _ h => h) (by decide) (fun _ _ => trivial) (fun _ _ => trivial) (Sx.before (by kernel_rfl) hs0.out) (Or.inl ⟨by rfl, fun u hu => by go_simp⟩) ?_
      try go_simp
      refine wpAnyX_take (i := 5) (v := Value.pointer (some ⟨pA, 0, none⟩)) rfl (by kernel_rfl) (by kernel_rfl) (by kernel_rfl) (fun _ _ _ h => h) (by decide) (by kernel_rfl) (by kernel_rfl) hs0.out (Or.inl ⟨by rfl, fun u hu => by obtain ⟨e1, e2, e3, e4, e5, e6⟩ := hu; go_simp⟩) ?_
      try go_simp
      refine wpAnyX_both (T := fun _ => True) (i := 6) (v := Value.pointer (some ⟨pA, 0, none⟩)) rfl (by kernel_rfl) (by kernel_rfl) (by kernel_rfl) (fun _ _ _ h => h) (by decide) (fun _ _ => trivial) (fun _ _ => trivial) (Sx.before (by kernel_rfl) hs0.out) (Or.inl ⟨by rfl, fun u hu => by go_simp⟩) ?_
      try go_simp
      refine wpAnyX_both (T := fun _ => True) (i := 7) (v := Value.pointer (some ⟨pA, 0, none⟩)) rfl (by kernel_rfl) (by kernel_rfl) (by kernel_rfl) (fun _ _ _ h => h) (by decide) (fun _ _ => trivial) (fun _ _ => trivial) (Sx.before (by kernel_rfl) hs0.out) (Or.inl ⟨by rfl, fun u hu => by go_simp⟩) ?_
      try go_simp
      refine wpAnyX_take (i := 8) (v := Value.int .i64 ((na : Int))) rfl (by kernel_rfl) (by kernel_rfl) (by kernel_rfl) (fun _ _ _ h => h) (by decide) (by kernel_rfl) (by kernel_rfl) hs0.out (Or.inl ⟨by rfl, fun u hu => by obtain ⟨e1, e2, e3, e4, e5, e6⟩ := hu; go_simp⟩) ?_
      try go_simp
      refine wpAnyX_both (T := fun _ => True) (i := 9) (v := Value.pointer (some ⟨tk, 0, none⟩)) rfl (by kernel_rfl) (by kernel_rfl) (by kernel_rfl) (fun _ _ _ h => h) (by decide) (fun _ _ => trivial) (fun _ _ => trivial) (Sx.before (by kernel_rfl) hs0.out) (Or.inl ⟨by rfl, fun u hu => by go_simp⟩) ?_
      try go_simp
      refine wpAnyX_both (T := fun _ => True) (i := 10) (v := Value.pointer (some ⟨tk, 0, none⟩)) rfl (by kernel_rfl) (by kernel_rfl) (by kernel_rfl) (fun _ _ _ h => h) (by decide) (fun _ _ => trivial) (fun _ _ => trivial) (Sx.before (by kernel_rfl) hs0.out) (Or.inl ⟨by rfl, fun u hu => by go_simp⟩) ?_
      try go_simp
      refine wpAnyX_both (T := fun _ => True) (i := 11) (v := Value.pointer (some ⟨tk, 1, none⟩)) rfl (by kernel_rfl) (by kernel_rfl) (by kernel_rfl) (fun _ _ _ h => h) (by decide) (fun _ _ => trivial) (fun _ _ => trivial) (Sx.before (by kernel_rfl) hs0.out) (Or.inl ⟨by rfl, fun u hu => by go_simp⟩) ?_
      try go_simp
      refine wpAnyX_take (i := 12) (v := Value.pointer (some ⟨pB, 0, none⟩)) rfl (by kernel_rfl) (by kernel_rfl) (by kernel_rfl) (fun _ _ _ h => h) (by decide) (by kernel_rfl) (by kernel_rfl) hs0.out (Or.inl ⟨by rfl, fun u hu => by obtain ⟨e1, e2, e3, e4, e5, e6⟩ := hu; go_simp⟩) ?_
      try go_simp
      refine wpAnyX_both (T := fun _ => True) (i := 13) (v := Value.pointer (some ⟨pB, 0, none⟩)) rfl (by kernel_rfl) (by kernel_rfl) (by kernel_rfl) (fun _ _ _ h => h) (by decide) (fun _ _ => trivial) (fun _ _ => trivial) (Sx.before (by kernel_rfl) hs0.out) (Or.inl ⟨by rfl, fun u hu => by go_simp⟩) ?_
      try go_simp
      refine wpAnyX_both (T := fun _ => True) (i := 14) (v := Value.pointer (some ⟨pB, 0, none⟩)) rfl (by kernel_rfl) (by kernel_rfl) (by kernel_rfl) (fun _ _ _ h => h) (by decide) (fun _ _ => trivial) (fun _ _ => trivial) (Sx.before (by kernel_rfl) hs0.out) (Or.inl ⟨by rfl, fun u hu => by go_simp⟩) ?_
      try go_simp
      refine wpAnyX_take (i := 15) (v := Value.int .i64 ((nb : Int))) rfl (by kernel_rfl) (by kernel_rfl) (by kernel_rfl) (fun _ _ _ h => h) (by decide) (by kernel_rfl) (by kernel_rfl) hs0.out (Or.inl ⟨by rfl, fun u hu => by obtain ⟨e1, e2, e3, e4, e5, e6⟩ := hu; go_simp⟩) ?_
      try go_simp
      refine wpAnyX_both (T := fun _ => True) (i := 16) (v := Value.pointer (some ⟨tk, 0, none⟩)) rfl (by kernel_rfl) (by kernel_rfl) (by kernel_rfl) (fun _ _ _ h => h) (by decide) (fun _ _ => trivial) (fun _ _ => trivial) (Sx.before (by kernel_rfl) hs0.out) (Or.inl ⟨by rfl, fun u hu => by go_simp⟩) ?_
      try go_simp
      refine wpAnyX_both (T := fun _ => True) (i := 17) (v := Value.pointer (some ⟨tk, 0, none⟩)) rfl (by kernel_rfl) (by kernel_rfl) (by kernel_rfl) (fun _ _ _ h => h) (by decide) (fun _ _ => trivial) (fun _ _ => trivial) (Sx.before (by kernel_rfl) hs0.out) (Or.inl ⟨by rfl, fun u hu => by go_simp⟩) ?_
      try go_simp
      refine wpAnyX_both (T := fun _ => True) (i := 18) (v := Value.pointer (some ⟨tk, 2, none⟩)) rfl (by kernel_rfl) (by kernel_rfl) (by kernel_rfl) (fun _ _ _ h => h) (by decide) (fun _ _ => trivial) (fun _ _ => trivial) (Sx.before (by kernel_rfl) hs0.out) (Or.inl ⟨by rfl, fun u hu => by go_simp⟩) ?_
      try go_simp
      refine wpAnyX_take (i := 19) (v := Value.int .i64 (ly)) rfl (by kernel_rfl) (by kernel_rfl) (by kernel_rfl) (fun _ _ _ h => h) (by decide) (by kernel_rfl) (by kernel_rfl) hs0.out (Or.inl ⟨by rfl, fun u hu => by obtain ⟨e1, e2, e3, e4, e5, e6⟩ := hu; go_simp⟩) ?_
      try go_simp
      refine wpAnyX_both (T := fun _ => True) (i := 20) (v := Value.agg #[Value.int .i64 ((na : Int)), Value.int .i64 ((nb : Int)), Value.int .i64 (ly)]) rfl (by kernel_rfl) (by kernel_rfl) (by kernel_rfl) (fun _ _ _ h => h) (by decide) (fun _ _ => trivial) (fun _ _ => trivial) (Sx.before (by kernel_rfl) hs0.out) (Or.inl ⟨by rfl, fun u hu => by go_simp⟩) ?_
      try go_simp
      refine wpAnyX_ready (rs := [21]) (by kernel_rfl) (by simp) (AllX.cons rfl (fun K hK => ?_) AllX.nil)
      go_simp
      have hbx : Below u0.heap.size u0 (u0.alloc (Obj.cells #[Value.int .i64 ((na : Int)), Value.int .i64 ((nb : Int)), Value.int .i64 (ly)] 55)) := (Below.refl _ _).alloc (Nat.le_refl _) _
      have HGu1 := kide (HGu0.out.later hbx)
      have XF1 := kide (XF0.out.later hbx)
      have XT1 := kide (XT0.out.later hbx)
      have OR1 := kide (own3_later OR0.out hbx)
      have YB := kide (Bx.new u0 #[Value.int .i64 ((na : Int)), Value.int .i64 ((nb : Int)), Value.int .i64 (ly)] 55)
      have BB1 : Hid (Below F wB (u0.alloc (Obj.cells #[Value.int .i64 ((na : Int)), Value.int .i64 ((nb : Int)), Value.int .i64 (ly)] 55))) := BB0.out.alloc (by have := BB0.out.size; have := HSB.out; omega) _
      have hz1 : F < (u0.alloc (Obj.cells #[Value.int .i64 ((na : Int)), Value.int .i64 ((nb : Int)), Value.int .i64 (ly)] 55)).heap.size := XF1.out.lt
      obtain ⟨b7, hb7⟩ : ∃ x, u0.heap.size = x := ⟨_, rfl⟩
      rw [hb7] at YB ⊢
      clear hb7 hbx
      generalize u0.alloc (Obj.cells #[Value.int .i64 ((na : Int)), Value.int .i64 ((nb : Int)), Value.int .i64 (ly)] 55) = u1 at *
      have hs1 : Hid ((fun u => u.cell? ⟨F, 1, none⟩ = some vr ∧ u.cell? ⟨tk, 0, none⟩ = some (Value.pointer (some ⟨pA, 0, none⟩)) ∧ u.cell? ⟨tk, 1, none⟩ = some (Value.pointer (some ⟨pB, 0, none⟩)) ∧ u.cell? ⟨tk, 2, none⟩ = some (Value.int .i64 (ly)) ∧ u.cell? ⟨pA, 0, none⟩ = some (Value.int .i64 ((na : Int))) ∧ u.cell? ⟨pB, 0, none⟩ = some (Value.int .i64 ((nb : Int)))) u1) := ⟨XF1.out.cell 1, XT1.out.cell 0, XT1.out.cell 1, XT1.out.cell 2, (HGu1.out.get HPA.out).1, (HGu1.out.get HPB.out).1⟩
      refine hK _ _ (Sx.before (by kernel_rfl) hs1.out) ?_
      clear hK K
      try go_simp
      refine wpAnyX_ready (rs := [22]) (by kernel_rfl) (by simp) (AllX.cons rfl (fun K hK => ?_) AllX.nil)
      refine step_appL _ rfl _ _ rfl (F + 1) vr (s.ls.take k) ((na : Int), (nb : Int), ly) (by first | rfl | simp [Act.eval]) OR1.out b7 1 (by first | rfl | simp [Act.eval]) (YB.out.cell 0) (YB.out.cell 1) (YB.out.cell 2) (by simp; omega) (by omega) ?_
      intro g8 c8 N8 u2 ho2 hg2
      have HGu2 := kide (HGB.out _ (Below.grown BB1.out hg2 (by have := BB1.out.size; have := HSB.out; omega) (fun j hj => by have := (own3_lt OR1.out hj).1; omega)))
      have XF2 := kide (XF1.out.far3 OR1.out hg2 (by decide))
      have XT2 := kide (XT1.out.far3 OR1.out hg2 (by decide))
      have OR2 := kide ho2
      have BB2 := kide (Below.grown BB1.out hg2 (by have := BB1.out.size; have := HSB.out; omega) (fun j hj => by have := (own3_lt OR1.out hj).1; omega))
      clear ho2 hg2
      have hs2 : Hid ((fun u => u.cell? ⟨F, 1, none⟩ = some vr ∧ u.cell? ⟨tk, 0, none⟩ = some (Value.pointer (some ⟨pA, 0, none⟩)) ∧ u.cell? ⟨tk, 1, none⟩ = some (Value.pointer (some ⟨pB, 0, none⟩)) ∧ u.cell? ⟨tk, 2, none⟩ = some (Value.int .i64 (ly)) ∧ u.cell? ⟨pA, 0, none⟩ = some (Value.int .i64 ((na : Int))) ∧ u.cell? ⟨pB, 0, none⟩ = some (Value.int .i64 ((nb : Int)))) u2) := ⟨XF2.out.cell 1, XT2.out.cell 0, XT2.out.cell 1, XT2.out.cell 2, (HGu2.out.get HPA.out).1, (HGu2.out.get HPB.out).1⟩
      refine hK _ _ (Sx.before (by kernel_rfl) hs2.out) ?_
      clear hK K
      try go_simp
      refine wpAnyX_both (T := fun _ => True) (i := 23) (v := Value.pointer (some ⟨F, 1, none⟩)) rfl (by kernel_rfl) (by kernel_rfl) (by kernel_rfl) (fun _ _ _ h => h) (by decide) (fun _ _ => trivial) (fun _ _ => trivial) (Sx.before (by kernel_rfl) hs2.out) (Or.inl ⟨by rfl, fun u hu => by go_simp⟩) ?_
      try go_simp
      refine wpAnyX_ready (rs := [24]) (by kernel_rfl) (by simp) (AllX.cons rfl (fun K hK => ?_) AllX.nil)
      have e9 := XF2.out.cell 1
      have f9 := XF2.out.froz 1
      simp at e9
      go_simp
      have XF3 := kide (XF2.out.set 1 (Value.slice (some ⟨g8, 0, none⟩) N8 c8))
      have OR3 := kide (own3_set OR2.out XF2.out (by decide) (o := 1) (Value.slice (some ⟨g8, 0, none⟩) N8 c8))
      have BB3 : Hid (Below F wB (u2.setCell ⟨F, 1, none⟩ (Value.slice (some ⟨g8, 0, none⟩) N8 c8))) := BB2.out.setCell (Nat.le_refl _) _
      generalize u2.setCell ⟨F, 1, none⟩ (Value.slice (some ⟨g8, 0, none⟩) N8 c8) = u3 at *
      refine hK _ _ (Sx.behind (by kernel_rfl) trivial) ?_
      clear hK K
      clear e9 f9
      try go_simp
      refine wpAnyX_done (by kernel_rfl) ?_ _
      skip
      have hfin : Hid (s.ls.take (k + 1) = s.ls.take k ++ [((na : Int), (nb : Int), ly)]) := by show _ = _; rw [List.take_add_one, GX.out]; rfl
      go_wp2_with fail
      go_roundw
      case rel => exact ⟨k + 1, _, by omega, by go_num, XF3.out, by rw [hfin.out]; exact OR3.out, BB3.out⟩
      case measure => simp [intOf]; omega
    · have hfin : Hid (s.ls.take k = s.ls) := by show _ = _; rw [List.take_of_length_le (by rw [HLL.out]; omega)]
      obtain ⟨va, vl, vc, hvr⟩ : ∃ a l c, vr = .slice a l c := by
        rcases OR.out.2 with ⟨e, -⟩ | ⟨g, cap, cur, e, -⟩
        · exact ⟨_, _, _, e⟩
        · exact ⟨_, _, _, e⟩
      subst hvr
      have XRr : Hid (Bx wr w.heap.size #[.int .i64 0, .slice none 0 0] 29) := by
        show wr.heap[w.heap.size]? = _
        rw [BB.out.block _ (by have := HF.out; omega)]
        exact XRB.out
      have g0 := XF.out.cell 0
      have g1 := XF.out.cell 1
      have r0 := XRr.out.cell 0
      have r1 := XRr.out.cell 1
      have f0 := XRr.out.froz 0
      have f1 := XRr.out.froz 1
      simp at g0 g1 r0 r1
      have OE : Hid (OK3 ((wr.setCell ⟨w.heap.size, 0, none⟩ (.int .i64 (n : Int))).setCell ⟨w.heap.size, 1, none⟩ (.slice va vl vc)) (w.heap.size + 2) (.slice va vl vc) s.ls) := by
        have h1 := OR.out
        rw [hfin.out, show F + 1 = w.heap.size + 2 by have := HF.out; omega] at h1
        exact own3_set (own3_set h1 XRr.out (by decide) _) (XRr.out.set 0 (.int .i64 (n : Int))) (by decide) _
      have BE : Hid (Below w.heap.size w ((wr.setCell ⟨w.heap.size, 0, none⟩ (.int .i64 (n : Int))).setCell ⟨w.heap.size, 1, none⟩ (.slice va vl vc))) := ((HBW.out _ BB.out).setCell (Nat.le_refl _) _).setCell (Nat.le_refl _) _
      have XE : Hid (Bx ((wr.setCell ⟨w.heap.size, 0, none⟩ (.int .i64 (n : Int))).setCell ⟨w.heap.size, 1, none⟩ (.slice va vl vc)) w.heap.size #[.int .i64 (n : Int), .slice va vl vc] 29) := (XRr.out.set 0 _).set 1 _
      go_wp2_with fail
      generalize (wr.setCell ⟨w.heap.size, 0, none⟩ (.int .i64 (n : Int))).setCell ⟨w.heap.size, 1, none⟩ (.slice va vl vc) = wE at *
      have z0 := XE.out.cell 0
      have z1 := XE.out.cell 1
      simp at z0 z1
      exact bodyPost_ret (v := .agg #[.int .i64 (n : Int), .slice va vl vc]) (by simp [results, Try.results51, go_sem, z0, z1]) rfl ⟨_, rfl, OE.out, BE.out⟩

end Go.Proofs.Ytakicdlfolhhcaa
