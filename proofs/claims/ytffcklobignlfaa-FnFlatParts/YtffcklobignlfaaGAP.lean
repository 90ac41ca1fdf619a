/- Several texts in one. -/
import Derived.Test.YtffcklobignlfaaRX
import Derived.Test.YtffcklobignlfaaGAO
import Derived.Handy
namespace Go.Proofs.Ytffcklobignlfaa
open Go.RowKit
set_option linter.unusedVariables false
set_option linter.unusedSimpArgs false
theorem run_appL5r (w : World) (ty : TypeId) (B : Nat) (v : Value) (l m : List (Int × Int)) (hown : OL5 w B v l) (gx ox k c : Nat) (hk : m.length = k)
  (hm : RdP w (some ⟨gx, ox, none⟩) m) (hl : l.length + m.length ≤ 1073741824) (hB : B ≤ w.heap.size) :
  ∃ v' w', (Builtin.append_ #[44, 44] ty #[v, .slice (some ⟨gx, ox, none⟩) k c]).run Try.prog w = .ok v' w' ∧ OL5 w' B v' (l ++ m) ∧ w.grownBy w' v.ownBlock ∧ (v'.ownBlock = v.ownBlock ∨ v'.ownBlock = some w.heap.size) := by
 obtain ⟨i0, hi, hz0, hz1, hz2⟩ := info_parts Try.infoL5
 obtain ⟨v', w', h1, ho', hg, -, hat⟩ := run_append_own_at (P := Try.prog) w B 44 ty 74 i0 _ 2 16 Try.underlying44 hi hz0 hz1 hz2 rfl (by decide) v l.length (ibc l) hown ⟨gx, ox, none⟩ k c (ibc m) (by rw [ibc_len, hk]) (by
  intro j u hj
  rw [Addr.add_lit]
  rcases hm.2 with h0 | ⟨b, q, e, hc⟩
  ·rw [h0] at hj; simp [ibc] at hj
  ·cases e
   have hjl : j < m.length * 2 := by have := (List.getElem?_eq_some_iff.1 hj).1; rw [ibc_len] at this; exact this
   have hp : m[j / 2]? = some (m[j / 2]'(by omega)) := List.getElem?_eq_getElem _
   obtain ⟨e1, e2⟩ := ibc_get hp
   obtain ⟨f1, f2⟩ := hc _ _ hp
   by_cases he : j % 2 = 0
   ·rw [show j = j / 2 * 2 by omega] at hj ⊢
    rw [e1] at hj
    cases hj
    exact f1
   ·rw [show j = j / 2 * 2 + 1 by omega] at hj ⊢
    rw [e2] at hj
    cases hj
    rw [← Nat.add_assoc]
    exact f2) (by
  intro u hu
  obtain ⟨z, rfl⟩ := ibc_ints m u hu
  rfl) (by unfold maxLen; omega) (by omega) hB
 refine ⟨v', w', h1, ?_, hg, hat⟩
 unfold OL5
 rw [ibc_append, List.length_append, hk]
 exact ho'
theorem wpList_appL5r {w : World} {ops : Array Oper} {rest : List Oper} {o : Oper} {a : Act} {Q : Exit → Act → World → Prop} (hgd : o.guard = none) (s x : Operand)
  (ho : o.op = .call { callee := .builtin .append, args := #[s, x], argTypes := #[44, 44] })
  (B : Nat) (v : Value) (l m : List (Int × Int)) (hs : a.eval s = v) (hown : OL5 w B v l) (gx ox k c : Nat) (hx : a.eval x = .slice (some ⟨gx, ox, none⟩) k c) (hk : m.length = k)
  (hm : RdP w (some ⟨gx, ox, none⟩) m) (hl : l.length + m.length ≤ 1073741824) (hB : B ≤ w.heap.size)
  (h : ∀ v' w', OL5 w' B v' (l ++ m) → w.grownBy w' v.ownBlock → wpList Try.prog ops Q rest (a.put o.dst v') w') : wpList Try.prog ops Q (o :: rest) a w := by
 refine wpList_plain hgd fun K hK => ?_
 obtain ⟨v', w', h1, h2, h3, -⟩ := run_appL5r w o.type B v l m hown gx ox k c hk hm hl hB
 unfold Oper.wp execOp
 simp only [ho, resolve, invoke, builtin, Sem.run_bind, Sem.run_pure, Result.andThen_ok, List.map_toArray, List.map_cons, List.map_nil, hs, hx, h1]
 exact hK _ _ (h v' w' h2 h3)
theorem wpList_appL5t {w : World} {ops : Array Oper} {rest : List Oper} {o : Oper} {a : Act} {Q : Exit → Act → World → Prop} (hgd : o.guard = none) (s x : Operand)
  (ho : o.op = .call { callee := .builtin .append, args := #[s, x], argTypes := #[44, 44] })
  (B : Nat) (v : Value) (l m : List (Int × Int)) (hs : a.eval s = v) (hown : OL5 w B v l) (gx ox k c : Nat) (hx : a.eval x = .slice (some ⟨gx, ox, none⟩) k c) (hk : m.length = k)
  (hm : RdP w (some ⟨gx, ox, none⟩) m) (hl : l.length + m.length ≤ 1073741824) (hB : B ≤ w.heap.size)
  (h : ∀ v' w', OL5 w' B v' (l ++ m) → w.grownBy w' v.ownBlock → (v'.ownBlock = v.ownBlock ∨ v'.ownBlock = some w.heap.size) → wpList Try.prog ops Q rest (a.put o.dst v') w') : wpList Try.prog ops Q (o :: rest) a w := by
 refine wpList_plain hgd fun K hK => ?_
 obtain ⟨v', w', h1, h2, h3, h4⟩ := run_appL5r w o.type B v l m hown gx ox k c hk hm hl hB
 unfold Oper.wp execOp
 simp only [ho, resolve, invoke, builtin, Sem.run_bind, Sem.run_pure, Result.andThen_ok, List.map_toArray, List.map_cons, List.map_nil, hs, hx, h1]
 exact hK _ _ (h v' w' h2 h3 h4)
theorem step_appL5r (w : World) {ops : Array Oper} {o : Oper} {a : Act} {K : Act → World → Prop} {Q : Exit → Act → World → Prop} {E : Prop} (hgd : o.guard = none) (s x : Operand)
  (ho : o.op = .call { callee := .builtin .append, args := #[s, x], argTypes := #[44, 44] })
  (B : Nat) (v : Value) (l m : List (Int × Int)) (hs : a.eval s = v) (hown : OL5 w B v l) (gx ox k c : Nat) (hx : a.eval x = .slice (some ⟨gx, ox, none⟩) k c) (hk : m.length = k)
  (hm : RdP w (some ⟨gx, ox, none⟩) m) (hl : l.length + m.length ≤ 1073741824) (hB : B ≤ w.heap.size)
  (h : ∀ v' w', OL5 w' B v' (l ++ m) → w.grownBy w' v.ownBlock → K (a.put o.dst v') w') : if Region.wanted o (yielded ops a.tmps) = true then Oper.wp Try.prog o a w K Q else E := by
 have hwn : Region.wanted o (yielded ops a.tmps) = true := by simp [Region.wanted, hgd]
 rw [if_pos hwn]
 obtain ⟨v', w', h1, h2, h3, -⟩ := run_appL5r w o.type B v l m hown gx ox k c hk hm hl hB
 unfold Oper.wp execOp
 simp only [ho, resolve, invoke, builtin, Sem.run_bind, Sem.run_pure, Result.andThen_ok, List.map_toArray, List.map_cons, List.map_nil, hs, hx, h1]
 exact h v' w' h2 h3
def Kb (w : World) (aa : Option Addr) (Ks : List (List Ib)) : Prop := ∃ ab ao, aa = some ⟨ab, ao, none⟩ ∧ ∀ i K, Ks[i]? = some K → ∃ g o c, w.cell? ⟨ab, ao + i, none⟩ = some (.slice (some ⟨g, o, none⟩) K.length c) ∧ K.length ≤ c ∧ RdP w (some ⟨g, o, none⟩) K
theorem rdp_part {w : World} {g o lo n : Nat} {ps : List Ib} (h : RdP w (some ⟨g, o, none⟩) ps) (hn : lo + n ≤ ps.length) : RdP w (some ⟨g, o + lo * 2, none⟩) ((ps.drop lo).take n) := by
 obtain ⟨h1, h2⟩ := h
 refine ⟨by simp; omega, ?_⟩
 rcases h2 with h2 | ⟨b, q, e, hc⟩
 ·left; rw [h2]; simp
 ·cases e
  right
  refine ⟨g, o + lo * 2, rfl, fun i p hp => ?_⟩
  have hi : i < n := by
   have := (List.getElem?_eq_some_iff.1 hp).1
   simp at this
   omega
  rw [List.getElem?_take, if_pos hi, List.getElem?_drop] at hp
  have := hc (lo + i) p hp
  rw [show o + (lo + i) * 2 = o + lo * 2 + i * 2 by omega] at this
  exact this
theorem Nb.at0 {w Y : World} {cs : Array Value} {b0 : Nat} (h : Nb w cs (.slice (some ⟨w.heap.size + 1, 0, none⟩) 0 0) [] Y) (e : w.heap.size = b0) : Nb w cs (.slice (some ⟨b0 + 1, 0, none⟩) 0 0) [] Y := by rw [← e]; exact h
theorem Nb.c {w Y : World} {cs : Array Value} {v : Value} {l : List Ib} {b0 : Nat} (h : Nb w cs v l Y) (e : w.heap.size = b0) (i : Nat) : Y.cell? ⟨b0, i, none⟩ = cs[i]? := by rw [← e]; exact h.bx.cell i
set_option maxHeartbeats 2000000 in
set_option maxRecDepth 100000 in
theorem l5n4 {da wa ka aa : Option Addr} {dc nd nw wc nk kc na ac An A1 Bn : Nat} {ps : List Ib} {vr bw : Int} {w : World} (hk : Kb w aa [ps]) (hna : na = 1) (hl : ps.length ≤ 4096) (hA : An + 1 = A1) (h1 : Bn < A1) (h2 : A1 ≤ ps.length) :
  Calls Try.prog 49 #[.slice da nd dc, .agg #[.int .i64 4, .int .i64 vr, .int .i64 (An : Int), .int .i64 (Bn : Int), .int .i64 bw, .slice wa nw wc, .slice ka nk kc], .slice aa na ac] w (RetNb ((ps.drop Bn).take (A1 - Bn)) w) := by
 subst hna
 obtain ⟨ab, ao, rfl, hk⟩ := hk
 obtain ⟨g, o, c, k1, k2, k3⟩ := hk 0 ps rfl
 rw [Nat.add_zero] at k1
 have S0 := kide (Nb.start w #[.int .i64 4, .int .i64 vr, .int .i64 (An : Int), .int .i64 (Bn : Int), .int .i64 bw, .slice wa nw wc, .slice ka nk kc])
 have B0 : Hid (Below w.heap.size w ((w.alloc (Obj.cells #[.int .i64 4, .int .i64 vr, .int .i64 (An : Int), .int .i64 (Bn : Int), .int .i64 bw, .slice wa nw wc, .slice ka nk kc] 88)).alloc (Obj.cells #[] 74))) := S0.out.bel
 have RP := kide ((rdp_part (lo := Bn) (n := A1 - Bn) k3 (by omega)).later B0.out)
 obtain ⟨KL, hKL⟩ : ∃ n, ps.length = n := ⟨_, rfl⟩
 rw [hKL] at k1 k2 hl h2
 have q1 : IntKind.i64.wrap ((An : Int) + 1) = (A1 : Int) := by rw [IntKind.wrap_i64]; omega
 have hll : ([] : List Ib).length + ((ps.drop Bn).take (A1 - Bn)).length ≤ 1073741824 := by rw [List.length_take]; simp; omega
 have hsz : w.heap.size + 1 ≤ ((w.alloc (Obj.cells #[.int .i64 4, .int .i64 vr, .int .i64 (An : Int), .int .i64 (Bn : Int), .int .i64 bw, .slice wa nw wc, .slice ka nk kc] 88)).alloc (Obj.cells #[] 74)).heap.size := by simp
 have hmk : ((ps.drop Bn).take (A1 - Bn)).length = A1 - Bn := by rw [List.length_take, List.length_drop, hKL]; omega
 clear hk k3 hKL
 have lab := block_lt_of_cell k1
 have LAB := kide lab
 clear hA
 go_enter Try.func49, Try.ntmps49
 go_wp2_with fail
 generalize ((w.alloc (Obj.cells #[.int .i64 4, .int .i64 vr, .int .i64 (An : Int), .int .i64 (Bn : Int), .int .i64 bw, .slice wa nw wc, .slice ka nk kc] 88)).alloc (Obj.cells #[] 74)) = Y at *
 obtain ⟨b0, hb0⟩ : ∃ b0, w.heap.size = b0 := ⟨_, rfl⟩
 have HB0 := kide hb0
 have S1 := kide (S0.out.at0 hb0)
 have x2 := S0.out.c hb0 2
 have x3 := S0.out.c hb0 3
 have lx := S0.out.bx.lt
 simp at x2 x3
 rw [hb0] at lx
 simp only [hb0]
 have y1 := (B0.out.cell (p := ⟨ab, ao, none⟩) lab).trans k1
 have laY : ab < Y.heap.size := Nat.lt_of_lt_of_le lab B0.out.size
 have q2 : Bn ≤ A1 := by omega
 have q3 : A1 ≤ c := by omega
 have q4 : ¬c = Bn := by omega
 clear k1 hb0 S0
 refine wp_region_x (SA := fun _ => False) (SB := fun uu => uu.cell? ⟨ab, ao, none⟩ = some (Value.slice (some ⟨g, o, none⟩) KL c) ∧ uu.cell? ⟨b0, 3, none⟩ = some (Value.int .i64 (Bn : Int)) ∧ uu.cell? ⟨b0, 2, none⟩ = some (Value.int .i64 (An : Int))) (k := 999) (by kernel_rfl) ?_
 have hn0 : Hid (Below Y.heap.size Y Y.drew) := (Below.refl _ _).drew
 have c0_0 := (kcell hn0.out ab ao laY).trans y1
 have c1_0 := (kcell hn0.out b0 3 lx).trans x3
 have c2_0 := (kcell hn0.out b0 2 lx).trans x2
 generalize Y.drew = n0 at *
 have hs0 : Hid ((fun uu => uu.cell? ⟨ab, ao, none⟩ = some (Value.slice (some ⟨g, o, none⟩) KL c) ∧ uu.cell? ⟨b0, 3, none⟩ = some (Value.int .i64 (Bn : Int)) ∧ uu.cell? ⟨b0, 2, none⟩ = some (Value.int .i64 (An : Int))) n0) := ⟨c0_0, c1_0, c2_0⟩
 try go_simp
 refine tkB (T := (fun _ => True)) (i := 0) (v := Value.slice (some ⟨b0 + 1, 0, none⟩) 0 0) rfl (by kernel_rfl) (fun _ _ _ h => by first | exact h | exact h.elim) (fun _ _ => trivial) (fun _ _ => trivial) (Sx.behind (by kernel_rfl) hs0.out) (Or.inl ⟨by rfl, fun uu hu => by go_simp⟩) ?_
 try go_simp
 refine tkB (T := (fun _ => True)) (i := 1) (v := Value.slice (some ⟨ab, ao, none⟩) 1 ac) rfl (by kernel_rfl) (fun _ _ _ h => by first | exact h | exact h.elim) (fun _ _ => trivial) (fun _ _ => trivial) (Sx.behind (by kernel_rfl) hs0.out) (Or.inl ⟨by rfl, fun uu hu => by go_simp⟩) ?_
 try go_simp
 refine tkB (T := (fun _ => True)) (i := 2) (v := Value.pointer (some ⟨ab, ao, none⟩)) rfl (by kernel_rfl) (fun _ _ _ h => by first | exact h | exact h.elim) (fun _ _ => trivial) (fun _ _ => trivial) (Sx.behind (by kernel_rfl) hs0.out) (Or.inl ⟨by rfl, fun uu hu => by go_simp⟩) ?_
 try go_simp
 refine tkB (T := (fun uu => uu.cell? ⟨ab, ao, none⟩ = some (Value.slice (some ⟨g, o, none⟩) KL c) ∧ uu.cell? ⟨b0, 3, none⟩ = some (Value.int .i64 (Bn : Int)) ∧ uu.cell? ⟨b0, 2, none⟩ = some (Value.int .i64 (An : Int)))) (i := 3) (v := Value.slice (some ⟨g, o, none⟩) KL c) rfl (by kernel_rfl) (fun _ _ _ h => by first | exact h | exact h.elim) (fun _ h => h.elim) (fun _ h => h) (Sx.behind (by kernel_rfl) hs0.out) (Or.inl ⟨by rfl, fun uu hu => by obtain ⟨e0, e1, e2⟩ := hu; go_simp⟩) ?_
 try go_simp
 refine tkB (T := (fun _ => True)) (i := 4) (v := Value.pointer (some ⟨b0, 3, none⟩)) rfl (by kernel_rfl) (fun _ _ _ h => by first | exact h | exact h.elim) (fun _ _ => trivial) (fun _ _ => trivial) (Sx.behind (by kernel_rfl) hs0.out) (Or.inl ⟨by rfl, fun uu hu => by go_simp⟩) ?_
 try go_simp
 refine tkB (T := (fun uu => uu.cell? ⟨ab, ao, none⟩ = some (Value.slice (some ⟨g, o, none⟩) KL c) ∧ uu.cell? ⟨b0, 3, none⟩ = some (Value.int .i64 (Bn : Int)) ∧ uu.cell? ⟨b0, 2, none⟩ = some (Value.int .i64 (An : Int)))) (i := 5) (v := Value.int .i64 (Bn : Int)) rfl (by kernel_rfl) (fun _ _ _ h => by first | exact h | exact h.elim) (fun _ h => h.elim) (fun _ h => h) (Sx.behind (by kernel_rfl) hs0.out) (Or.inl ⟨by rfl, fun uu hu => by obtain ⟨e0, e1, e2⟩ := hu; go_simp⟩) ?_
 try go_simp
 refine tkB (T := (fun _ => True)) (i := 6) (v := Value.pointer (some ⟨b0, 2, none⟩)) rfl (by kernel_rfl) (fun _ _ _ h => by first | exact h | exact h.elim) (fun _ _ => trivial) (fun _ _ => trivial) (Sx.behind (by kernel_rfl) hs0.out) (Or.inl ⟨by rfl, fun uu hu => by go_simp⟩) ?_
 try go_simp
 refine tkB (T := (fun uu => uu.cell? ⟨ab, ao, none⟩ = some (Value.slice (some ⟨g, o, none⟩) KL c) ∧ uu.cell? ⟨b0, 3, none⟩ = some (Value.int .i64 (Bn : Int)) ∧ uu.cell? ⟨b0, 2, none⟩ = some (Value.int .i64 (An : Int)))) (i := 7) (v := Value.int .i64 (An : Int)) rfl (by kernel_rfl) (fun _ _ _ h => by first | exact h | exact h.elim) (fun _ h => h.elim) (fun _ h => h) (Sx.behind (by kernel_rfl) hs0.out) (Or.inl ⟨by rfl, fun uu hu => by obtain ⟨e0, e1, e2⟩ := hu; go_simp⟩) ?_
 try go_simp
 refine tkB (T := (fun _ => True)) (i := 8) (v := Value.int .i64 (A1 : Int)) rfl (by kernel_rfl) (fun _ _ _ h => by first | exact h | exact h.elim) (fun _ _ => trivial) (fun _ _ => trivial) (Sx.behind (by kernel_rfl) hs0.out) (Or.inl ⟨by rfl, fun uu hu => by go_simp; try exact q1⟩) ?_
 try go_simp
 refine tkB (T := (fun _ => True)) (i := 9) (v := Value.slice (some ⟨g, o + Bn * 2, none⟩) (A1 - Bn) (c - Bn)) rfl (by kernel_rfl) (fun _ _ _ h => by first | exact h | exact h.elim) (fun _ _ => trivial) (fun _ _ => trivial) (Sx.behind (by kernel_rfl) hs0.out) (Or.inl ⟨by rfl, fun uu hu => by go_simp⟩) ?_
 try go_simp
 refine wpAnyX_ready (rs := [10]) (by kernel_rfl) (by simp) (AllX.cons rfl (fun K hK => ?_) AllX.nil)
 have NY := kide (S1.out.later hn0.out)
 have RY := kide (RP.out.later hn0.out)
 have hszn : w.heap.size + 1 ≤ n0.heap.size := Nat.le_trans hsz hn0.out.size
 refine step_appL5r n0 rfl _ _ rfl (w.heap.size + 1) _ [] ((ps.drop Bn).take (A1 - Bn)) rfl NY.out.row g (o + Bn * 2) (A1 - Bn) _ rfl hmk RY.out hll hszn ?_
 intro v6 n1 ho6 hg6
 have N6 := kide (NY.out.app ho6 hg6)
 rw [List.nil_append] at N6
 have c0_1 : n1.cell? ⟨ab, ao, none⟩ = some (Value.slice (some ⟨g, o, none⟩) KL c) := (World.cell?_of_block (hg6.block ab (by have := hn0.out.size; omega) (fun e => by have := (NY.out.row.lt e.symm).1; have := LAB.out; omega))).trans c0_0
 have c1_1 : n1.cell? ⟨b0, 3, none⟩ = some (Value.int .i64 (Bn : Int)) := N6.out.c HB0.out 3
 have c2_1 : n1.cell? ⟨b0, 2, none⟩ = some (Value.int .i64 (An : Int)) := N6.out.c HB0.out 2
 clear ho6 hg6
 have hs1 : Hid ((fun uu => uu.cell? ⟨ab, ao, none⟩ = some (Value.slice (some ⟨g, o, none⟩) KL c) ∧ uu.cell? ⟨b0, 3, none⟩ = some (Value.int .i64 (Bn : Int)) ∧ uu.cell? ⟨b0, 2, none⟩ = some (Value.int .i64 (An : Int))) n1) := ⟨c0_1, c1_1, c2_1⟩
 refine hK _ _ (Sx.behind (by kernel_rfl) hs1.out) ?_
 clear hK K
 try go_simp
 refine tkB (T := (fun _ => True)) (i := 11) (v := v6) rfl (by kernel_rfl) (fun _ _ _ h => by first | exact h | exact h.elim) (fun _ _ => trivial) (fun _ _ => trivial) (Sx.behind (by kernel_rfl) hs1.out) (Or.inl ⟨by rfl, fun uu hu => by go_simp⟩) ?_
 try go_simp
 refine wpAnyX_done (by kernel_rfl) ?_ _
 have N6x := N6.out
 go_wp2_with fail
 exact bodyPost_ret (v := v6) (by simp [results, Try.results49, go_sem]) rfl ⟨v6, rfl, N6x.row.lowB (Nat.le_succ _), N6x.bel⟩
theorem cat_step {Ks : List (List Ib)} {q : Nat} {K : List Ib} (h : Ks[q]? = some K) : (Ks.drop (q + 1)).reverse.flatten ++ K = (Ks.drop q).reverse.flatten := by
 obtain ⟨hq, rfl⟩ := List.getElem?_eq_some_iff.1 h
 rw [List.drop_eq_getElem_cons hq, List.reverse_cons, List.flatten_append]
 simp only [List.flatten_cons, List.flatten_nil, List.append_nil]
theorem cat_len (Ks : List (List Ib)) (q : Nat) : ((Ks.drop q).reverse.flatten).length ≤ (Ks.reverse.flatten).length := by
 conv => rhs; rw [← List.take_append_drop q Ks, List.reverse_append, List.flatten_append, List.length_append]
 omega
set_option maxHeartbeats 2000000 in
set_option maxRecDepth 100000 in
theorem l5n3 {da wa ka aa : Option Addr} {dc nd nw wc nk kc na ac : Nat} {Ks : List (List Ib)} {vr A Bb bw : Int} {w : World} (hk : Kb w aa Ks) (hna : Ks.length = na) (hna2 : na ≤ 4096) (hl : (Ks.reverse.flatten).length ≤ 4096) :
  Calls Try.prog 49 #[.slice da nd dc, .agg #[.int .i64 3, .int .i64 vr, .int .i64 A, .int .i64 Bb, .int .i64 bw, .slice wa nw wc, .slice ka nk kc], .slice aa na ac] w (RetNb (Ks.reverse.flatten) w) := by
 have S0 := kide (Nb.start w #[.int .i64 3, .int .i64 vr, .int .i64 A, .int .i64 Bb, .int .i64 bw, .slice wa nw wc, .slice ka nk kc])
 have HK := kide hk
 have HNA := kide hna
 have HL := kide hl
 have q0 : IntKind.i64.wrap ((na : Int) - 1) = (na : Int) - 1 := by rw [IntKind.wrap_i64]; omega
 clear hk hna hl
 go_enter Try.func49, Try.ntmps49
 go_wp2_with fail
 go_loopw [7, 10] (fun v i wr => ∃ r : Nat, r ≤ na ∧ i = .int .i64 ((r : Int) - 1) ∧ Nb w #[.int .i64 3, .int .i64 vr, .int .i64 A, .int .i64 Bb, .int .i64 bw, .slice wa nw wc, .slice ka nk kc] v ((Ks.drop r).reverse.flatten) wr) (fun _ i _ => (intOf i + 1).toNat)
 case atStart => exact ⟨na, Nat.le_refl _, rfl, by rw [← HNA.out, List.drop_length]; exact S0.out⟩
 case round =>
  obtain ⟨r, hr, rfl, hnb⟩ := hrel
  have HNB := kide hnb
  clear hnb
  rcases Nat.eq_zero_or_pos r with rfl | hp
  ·go_wp2_with fail
   exact bodyPost_ret (v := u7) (by simp [results, Try.results49, go_sem]) rfl ⟨u7, rfl, HNB.out.row.lowB (Nat.le_succ _), HNB.out.bel⟩
  ·obtain ⟨q, rfl⟩ : ∃ q, r = q + 1 := ⟨r - 1, by omega⟩
   rw [show (((q + 1 : Nat) : Int) - 1) = (q : Int) by omega]
   have q1 : (q : Int) < (na : Int) := by omega
   have q2 : IntKind.i64.wrap ((q : Int) - 1) = (q : Int) - 1 := by rw [IntKind.wrap_i64]; omega
   obtain ⟨K, hK9⟩ : ∃ K, Ks[q]? = some K := by
    have : q < Ks.length := by rw [HNA.out]; omega
    exact ⟨_, List.getElem?_eq_getElem this⟩
   obtain ⟨ab, ao, rfl, hk⟩ := HK.out
   obtain ⟨g, o, c, k1, k2, k3⟩ := hk q K hK9
   have lab := block_lt_of_cell k1
   have y1 := (HNB.out.bel.cell (p := ⟨ab, ao + q, none⟩) lab).trans k1
   have RP := kide (k3.later HNB.out.bel)
   have CS := kide (cat_step hK9)
   have CL := kide (cat_len Ks q)
   obtain ⟨KL, hKL⟩ : ∃ n, K.length = n := ⟨_, rfl⟩
   rw [hKL] at k2 y1
   have HKL := kide hKL
   have hll : ((Ks.drop (q + 1)).reverse.flatten).length + K.length ≤ 1073741824 := by have := CL.out; rw [← CS.out, List.length_append] at this; have := HL.out; omega
   have hsz : w.heap.size + 1 ≤ wr.heap.size := HNB.out.bx.lt
   clear hk k3 k1 hKL hK9
   go_wp2_with (refine wpList_appL5r rfl _ _ rfl (w.heap.size + 1) _ ((Ks.drop (q + 1)).reverse.flatten) K rfl HNB.out.row g o KL c rfl HKL.out RP.out hll hsz ?_)
   intro v6 w6 ho6 hg6
   have N6 := kide (HNB.out.app ho6 hg6)
   rw [CS.out] at N6
   clear ho6 hg6
   go_wp2_with fail
   go_roundw
   case rel => exact ⟨q, by omega, rfl, N6.out⟩
   case measure => simp only [intOf]; omega
theorem rep_step (K : List Ib) (k : Nat) : (List.replicate k K).flatten ++ K = (List.replicate (k + 1) K).flatten := by
 rw [List.replicate_succ', List.flatten_append]
 simp only [List.flatten_cons, List.flatten_nil, List.append_nil]
theorem rep_len (K : List Ib) {k n : Nat} (h : k ≤ n) : ((List.replicate k K).flatten).length ≤ ((List.replicate n K).flatten).length := by
 simp only [List.length_flatten, List.map_replicate, List.sum_replicate_nat]
 exact Nat.mul_le_mul_right _ h
set_option maxHeartbeats 2000000 in
set_option maxRecDepth 100000 in
theorem l5n9 {da wa ka aa : Option Addr} {dc nd nw wc nk kc na ac An : Nat} {K : List Ib} {vr Bb bw : Int} {w : World} (hk : Kb w aa [K]) (hna : na = 1) (hA : An ≤ 4096) (hl : ((List.replicate An K).flatten).length ≤ 4096) :
  Calls Try.prog 49 #[.slice da nd dc, .agg #[.int .i64 9, .int .i64 vr, .int .i64 (An : Int), .int .i64 Bb, .int .i64 bw, .slice wa nw wc, .slice ka nk kc], .slice aa na ac] w (RetNb ((List.replicate An K).flatten) w) := by
 subst hna
 have S0 := kide (Nb.start w #[.int .i64 9, .int .i64 vr, .int .i64 (An : Int), .int .i64 Bb, .int .i64 bw, .slice wa nw wc, .slice ka nk kc])
 obtain ⟨ab, ao, rfl, hk⟩ := hk
 obtain ⟨g, o, c, k1, k2, k3⟩ := hk 0 K rfl
 rw [Nat.add_zero] at k1
 have HL := kide hl
 have lab := block_lt_of_cell k1
 obtain ⟨KL, hKL⟩ : ∃ n, K.length = n := ⟨_, rfl⟩
 rw [hKL] at k2 k1
 have HKL := kide hKL
 have K3 := kide k3
 clear hk hl hKL k3
 go_enter Try.func49, Try.ntmps49
 go_wp2_with fail
 go_loopw [7, 15] (fun v i wr => ∃ k : Nat, k ≤ An ∧ i = .int .i64 (k : Int) ∧ Nb w #[.int .i64 9, .int .i64 vr, .int .i64 (An : Int), .int .i64 Bb, .int .i64 bw, .slice wa nw wc, .slice ka nk kc] v ((List.replicate k K).flatten) wr) (fun _ i _ => An - (intOf i).toNat)
 case atStart => exact ⟨0, Nat.zero_le _, rfl, S0.out⟩
 case round =>
  obtain ⟨k, hk, rfl, hnb⟩ := hrel
  have c2 := hnb.bx.cell 2
  simp at c2
  have HNB := kide hnb
  have lbx := hnb.bx.lt
  clear hnb
  by_cases hlt : k < An
  ·have q1 : (k : Int) < (An : Int) := by omega
   have q2 : IntKind.i64.wrap ((k : Int) + 1) = (k : Int) + 1 := by rw [IntKind.wrap_i64]; omega
   have y1 := (HNB.out.bel.cell (p := ⟨ab, ao, none⟩) lab).trans k1
   have RP := kide (K3.out.later HNB.out.bel)
   have CS := kide (rep_step K k)
   have hll : ((List.replicate k K).flatten).length + K.length ≤ 1073741824 := by have := rep_len K (k := k + 1) (n := An) hlt; rw [← CS.out, List.length_append] at this; have := HL.out; omega
   have hsz : w.heap.size + 1 ≤ wr.heap.size := HNB.out.bx.lt
   go_wp2_with (refine wpList_appL5r rfl _ _ rfl (w.heap.size + 1) _ ((List.replicate k K).flatten) K rfl HNB.out.row g o KL c rfl HKL.out RP.out hll hsz ?_)
   intro v6 w6 ho6 hg6
   have N6 := kide (HNB.out.app ho6 hg6)
   rw [CS.out] at N6
   clear ho6 hg6
   go_wp2_with fail
   go_roundw
   case rel => exact ⟨k + 1, by omega, rfl, N6.out⟩
   case measure => simp only [intOf]; omega
  ·obtain rfl : k = An := by omega
   go_wp2_with fail
   exact bodyPost_ret (v := u7) (by simp [results, Try.results49, go_sem]) rfl ⟨u7, rfl, HNB.out.row.lowB (Nat.le_succ _), HNB.out.bel⟩

structure Nt (w : World) (cs : Array Value) (t : Ib) (v : Value) (l : List Ib) (wr : World) : Prop where
 nb : Nb w cs v l wr
 tp : Bz wr (w.heap.size + 1 + 1) #[.int .i64 t.1, .int .i64 t.2] 74
 no : v.ownBlock ≠ some (w.heap.size + 1 + 1)
theorem Nt.later {w wr u : World} {cs : Array Value} {t : Ib} {v : Value} {l : List Ib} (h : Nt w cs t v l wr) (hb : Below wr.heap.size wr u) : Nt w cs t v l u := ⟨h.nb.later hb, h.tp.later hb, h.no⟩
theorem Nt.app {w u w' : World} {cs : Array Value} {t : Ib} {v v' : Value} {l m : List Ib} {H : Nat} (h : Nt w cs t v l u) (ho : OL5 w' (w.heap.size + 1) v' (l ++ m)) (hg : u.grownBy w' v.ownBlock) (hat : v'.ownBlock = v.ownBlock ∨ v'.ownBlock = some H) (hH : u.heap.size = H) : Nt w cs t v' (l ++ m) w' := by
 have hlt := h.tp.lt
 refine ⟨h.nb.app ho hg, ?_, ?_⟩
 ·have hb := h.tp
  unfold Bz at hb ⊢
  rw [hg.block _ hlt (fun e => h.no e.symm)]
  exact hb
 ·rcases hat with e | e
  ·rw [e]; exact h.no
  ·rw [e]
   intro e2
   have := Option.some.inj e2
   omega
theorem Nt.start (w : World) (cs : Array Value) (t : Ib) : Nt w cs t (.slice (some ⟨w.heap.size + 1, 0, none⟩) 0 0) [] (((w.alloc (Obj.cells cs 88)).alloc (Obj.cells #[] 74)).alloc (Obj.cells #[.int .i64 t.1, .int .i64 t.2] 74)) := by
 refine ⟨(Nb.start w cs).later ((Below.refl _ _).alloc (Nat.le_refl _) _), ?_, ?_⟩
 ·have h9 := Bz.new ((w.alloc (Obj.cells cs 88)).alloc (Obj.cells #[] 74)) #[.int .i64 t.1, .int .i64 t.2] 74
  simp only [World.size_alloc] at h9
  exact h9
 ·simp [Value.ownBlock]
theorem Nt.at0 {w Y : World} {cs : Array Value} {t : Ib} {b0 : Nat} (h : Nt w cs t (.slice (some ⟨w.heap.size + 1, 0, none⟩) 0 0) [] Y) (e : w.heap.size = b0) : Nt w cs t (.slice (some ⟨b0 + 1, 0, none⟩) 0 0) [] Y := by rw [← e]; exact h
theorem Nt.tpc {w Y : World} {cs : Array Value} {t : Ib} {v : Value} {l : List Ib} {b0 : Nat} (h : Nt w cs t v l Y) (e : w.heap.size = b0) (i : Nat) : Y.cell? ⟨b0 + 1 + 1, i, none⟩ = #[.int .i64 t.1, .int .i64 t.2][i]? := by rw [← e]; exact h.tp.cell i
theorem Nt.tpf {w Y : World} {cs : Array Value} {t : Ib} {v : Value} {l : List Ib} {b0 : Nat} (h : Nt w cs t v l Y) (e : w.heap.size = b0) (i : Nat) : Y.frozen? ⟨b0 + 1 + 1, i, none⟩ = false := by rw [← e]; exact h.tp.froz i
theorem OL5.other {w w' : World} {B : Nat} {v : Value} {l : List Ib} (h : OL5 w B v l) (hw : ∀ g, v.ownBlock = some g → w'.heap[g]? = w.heap[g]?) : OL5 w' B v l := by
 obtain ⟨h1, h2⟩ := h
 refine ⟨h1, ?_⟩
 rcases h2 with h2 | ⟨g, cap, cur, rfl, hg, hh, r⟩
 ·exact .inl h2
 ·exact .inr ⟨g, cap, cur, rfl, hg, by rw [hw g rfl]; exact hh, r⟩
theorem Nt.below {w Y : World} {cs : Array Value} {t : Ib} {v : Value} {l : List Ib} {b0 : Nat} (h : Nt w cs t v l Y) (e : w.heap.size = b0) (t1 t2 : Int) : Below w.heap.size w ((Y.setCell ⟨b0 + 1 + 1, 0, none⟩ (.int .i64 t1)).setCell ⟨b0 + 1 + 1, 1, none⟩ (.int .i64 t2)) := by
 subst e
 exact (h.nb.bel.setCell (by simp; omega) _).setCell (by simp; omega) _
theorem Nt.set {w Y : World} {cs : Array Value} {t : Ib} {v : Value} {l : List Ib} {b0 : Nat} (h : Nt w cs t v l Y) (e : w.heap.size = b0) (t1 t2 : Int) : Nt w cs (t1, t2) v l ((Y.setCell ⟨b0 + 1 + 1, 0, none⟩ (.int .i64 t1)).setCell ⟨b0 + 1 + 1, 1, none⟩ (.int .i64 t2)) := by
 have hb := h.below e t1 t2
 subst e
 refine ⟨⟨(h.nb.bx.other (by omega) _ _).other (by omega) _ _, h.nb.row.other (fun g hg => ?_), hb⟩, (h.tp.set 0 _).set 1 _, h.no⟩
 have hne : g ≠ w.heap.size + 1 + 1 := fun e => h.no (by rw [hg, e])
 rw [heap_setCell_other _ _ _ _ (by simpa using hne), heap_setCell_other _ _ _ _ (by simpa using hne)]
theorem rdp_one {w : World} {b : Nat} {t : Ib} {ty : TypeId} (h : Bz w b #[.int .i64 t.1, .int .i64 t.2] ty) : RdP w (some ⟨b, 0, none⟩) [t] := by
 refine ⟨by simp, .inr ⟨b, 0, rfl, fun i p hp => ?_⟩⟩
 match i, hp with
 | 0, hp =>
  obtain rfl : t = p := by simpa using hp
  exact ⟨h.cell 0, h.cell 1⟩
theorem rdp_at {w : World} {b o i : Nat} {ps : List Ib} {p : Ib} (h : RdP w (some ⟨b, o, none⟩) ps) (hp : ps[i]? = some p) : w.cell? ⟨b, o + i * 2, none⟩ = some (.int .i64 p.1) ∧ w.cell? ⟨b, o + i * 2 + 1, none⟩ = some (.int .i64 p.2) := by
 rcases h.2 with h | ⟨b', o', e, hc⟩
 ·rw [h] at hp; simp at hp
 ·cases e
  exact hc i p hp
theorem rpl_snoc (ps : List Ib) (t : Ib) (k : Nat) : ps ++ List.replicate k t ++ [t] = ps ++ List.replicate (k + 1) t := by rw [List.replicate_succ', List.append_assoc]
set_option maxHeartbeats 2000000 in
set_option maxRecDepth 100000 in
theorem l5n5 {da wa ka aa : Option Addr} {dc nd nw wc nk kc na ac An : Nat} {ps : List Ib} {vr Bb bw : Int} {w : World} (hk : Kb w aa [ps]) (hna : na = 1) (hA : An ≤ 4096) (hl : ps.length ≤ 4096) :
  Calls Try.prog 49 #[.slice da nd dc, .agg #[.int .i64 5, .int .i64 vr, .int .i64 (An : Int), .int .i64 Bb, .int .i64 bw, .slice wa nw wc, .slice ka nk kc], .slice aa na ac] w (RetNb (ps ++ List.replicate An (-1, 0)) w) := by
 subst hna
 have S0 := kide (Nt.start w #[.int .i64 5, .int .i64 vr, .int .i64 (An : Int), .int .i64 Bb, .int .i64 bw, .slice wa nw wc, .slice ka nk kc] (-1, 0))
 obtain ⟨ab, ao, rfl, hk⟩ := hk
 obtain ⟨g, o, c, k1, k2, k3⟩ := hk 0 ps rfl
 rw [Nat.add_zero] at k1
 have HL := kide hl
 have lab := block_lt_of_cell k1
 obtain ⟨KL, hKL⟩ : ∃ n, ps.length = n := ⟨_, rfl⟩
 rw [hKL] at k2 k1
 have HKL := kide hKL
 have y1 := (S0.out.nb.bel.cell (p := ⟨ab, ao, none⟩) lab).trans k1
 have RP := kide (k3.later S0.out.nb.bel)
 have hll : ([] : List Ib).length + ps.length ≤ 1073741824 := by simp; omega
 have hsz : w.heap.size + 1 ≤ (((w.alloc (Obj.cells #[.int .i64 5, .int .i64 vr, .int .i64 (An : Int), .int .i64 Bb, .int .i64 bw, .slice wa nw wc, .slice ka nk kc] 88)).alloc (Obj.cells #[] 74)).alloc (Obj.cells #[.int .i64 (-1), .int .i64 0] 74)).heap.size := by simp
 clear hk hl hKL k3
 go_enter Try.func49, Try.ntmps49
 go_wp2_with (refine wpList_appL5t rfl _ _ rfl (w.heap.size + 1) _ [] ps rfl S0.out.nb.row g o KL c rfl HKL.out RP.out hll hsz ?_)
 intro v6 w6 ho6 hg6 hat6
 have N6 := kide (S0.out.app ho6 hg6 hat6 (by simp))
 rw [List.nil_append] at N6
 clear ho6 hg6 hat6
 go_wp2_with fail
 go_loopw [7, 12] (fun v i wr => ∃ k : Nat, k ≤ An ∧ i = .int .i64 (k : Int) ∧ Nt w #[.int .i64 5, .int .i64 vr, .int .i64 (An : Int), .int .i64 Bb, .int .i64 bw, .slice wa nw wc, .slice ka nk kc] (-1, 0) v (ps ++ List.replicate k (-1, 0)) wr) (fun _ i _ => An - (intOf i).toNat)
 case atStart => exact ⟨0, Nat.zero_le _, rfl, by rw [List.replicate_zero, List.append_nil]; exact N6.out⟩
 case round =>
  obtain ⟨k, hk, rfl, hnb⟩ := hrel
  have c2 := hnb.nb.bx.cell 2
  have t0 := hnb.tp.cell 0
  have t1 := hnb.tp.cell 1
  simp at c2 t0 t1
  have HNB := kide hnb
  have lbx := hnb.nb.bx.lt
  have ltp := hnb.tp.lt
  clear hnb
  by_cases hlt : k < An
  ·have q1 : (k : Int) < (An : Int) := by omega
   have q2 : IntKind.i64.wrap ((k : Int) + 1) = (k : Int) + 1 := by rw [IntKind.wrap_i64]; omega
   have BA : Hid (Below wr.heap.size wr (wr.alloc (Obj.cells #[.int .i64 (-1), .int .i64 0] 74))) := (Below.refl _ _).alloc (Nat.le_refl _) _
   have XA := kide (rdp_one (t := (-1, 0)) (Bz.new wr #[.int .i64 (-1), .int .i64 0] 74))
   have NA := kide (HNB.out.later BA.out)
   have hll2 : (ps ++ List.replicate k ((-1, 0) : Ib)).length + [((-1, 0) : Ib)].length ≤ 1073741824 := by have := HL.out; simp; omega
   have hsz2 : w.heap.size + 1 ≤ (wr.alloc (Obj.cells #[.int .i64 (-1), .int .i64 0] 74)).heap.size := by simp; omega
   go_wp2_with (refine wpList_appL5t rfl _ _ rfl (w.heap.size + 1) _ (ps ++ List.replicate k ((-1, 0) : Ib)) [(-1, 0)] rfl NA.out.nb.row wr.heap.size 0 1 _ rfl rfl XA.out hll2 hsz2 ?_)
   intro v7 w7 ho7 hg7 hat7
   rw [← List.append_assoc] at ho7
   have N7 := kide (NA.out.app ho7 hg7 hat7 (by simp))
   rw [rpl_snoc] at N7
   clear ho7 hg7 hat7
   go_wp2_with fail
   go_roundw
   case rel => exact ⟨k + 1, by omega, rfl, N7.out⟩
   case measure => simp only [intOf]; omega
  ·obtain rfl : k = An := by omega
   go_wp2_with fail
   exact bodyPost_ret (v := u7) (by simp [results, Try.results49, go_sem]) rfl ⟨u7, rfl, HNB.out.nb.row.lowB (Nat.le_succ _), HNB.out.nb.bel⟩
set_option maxHeartbeats 2000000 in
set_option maxRecDepth 100000 in
theorem l5n6 {da wa ka aa : Option Addr} {dc nd nw wc nk kc na ac An : Nat} {ps : List Ib} {t : Ib} {vr Bb bw : Int} {w : World} (hk : Kb w aa [ps]) (hna : na = 1) (hA : An ≤ 4096) (hl : ps.length ≤ 4096) (ht : ps[ps.length - 1]? = some t) :
  Calls Try.prog 49 #[.slice da nd dc, .agg #[.int .i64 6, .int .i64 vr, .int .i64 (An : Int), .int .i64 Bb, .int .i64 bw, .slice wa nw wc, .slice ka nk kc], .slice aa na ac] w (RetNb (ps ++ List.replicate An t) w) := by
 subst hna
 have S0 := kide (Nt.start w #[.int .i64 6, .int .i64 vr, .int .i64 (An : Int), .int .i64 Bb, .int .i64 bw, .slice wa nw wc, .slice ka nk kc] (-1, 0))
 obtain ⟨ab, ao, rfl, hk⟩ := hk
 obtain ⟨g, o, c, k1, k2, k3⟩ := hk 0 ps rfl
 rw [Nat.add_zero] at k1
 have hp9 : 0 < ps.length := by
  have := (List.getElem?_eq_some_iff.1 ht).1
  omega
 obtain ⟨T, hT⟩ : ∃ T, ps.length = T + 1 := ⟨ps.length - 1, by omega⟩
 rw [show ps.length - 1 = T by omega] at ht
 obtain ⟨z1, z2⟩ := rdp_at k3 ht
 have HL := kide hl
 have lab := block_lt_of_cell k1
 obtain ⟨KL, hKL⟩ : ∃ n, ps.length = n := ⟨_, rfl⟩
 rw [hKL] at k2 k1
 have HKL := kide hKL
 have y1 := (S0.out.nb.bel.cell (p := ⟨ab, ao, none⟩) lab).trans k1
 have lg := block_lt_of_cell z1
 have y2 := (S0.out.nb.bel.cell (p := ⟨g, o + T * 2, none⟩) lg).trans z1
 have y3 := (S0.out.nb.bel.cell (p := ⟨g, o + T * 2 + 1, none⟩) lg).trans z2
 have RP := kide (k3.later S0.out.nb.bel)
 have hll : ([] : List Ib).length + ps.length ≤ 1073741824 := by simp; omega
 have hsz : w.heap.size + 1 ≤ (((w.alloc (Obj.cells #[.int .i64 6, .int .i64 vr, .int .i64 (An : Int), .int .i64 Bb, .int .i64 bw, .slice wa nw wc, .slice ka nk kc] 88)).alloc (Obj.cells #[] 74)).alloc (Obj.cells #[.int .i64 (-1), .int .i64 0] 74)).heap.size := by simp
 have e1 : IntKind.i64.wrap ((KL : Int) - 1) = (T : Int) := by rw [IntKind.wrap_i64]; omega
 have e2 : (T : Int) < (KL : Int) := by omega
 have e3 : T < KL := by omega
 have K3 := kide k3
 clear hk hl hKL k3 hT hp9 ht z1 z2 k1
 go_enter Try.func49, Try.ntmps49
 go_wp2_with fail
 generalize (((w.alloc (Obj.cells #[.int .i64 6, .int .i64 vr, .int .i64 (An : Int), .int .i64 Bb, .int .i64 bw, .slice wa nw wc, .slice ka nk kc] 88)).alloc (Obj.cells #[] 74)).alloc (Obj.cells #[.int .i64 (-1), .int .i64 0] 74)) = Y at *
 obtain ⟨b0, hb0⟩ : ∃ b0, w.heap.size = b0 := ⟨_, rfl⟩
 have HB0 := kide hb0
 have S1 := kide (S0.out.at0 hb0)
 have laY : ab < Y.heap.size := Nat.lt_of_lt_of_le lab S0.out.nb.bel.size
 have lgY : g < Y.heap.size := Nat.lt_of_lt_of_le lg S0.out.nb.bel.size
 have lab0 : ab < b0 := by rw [← hb0]; exact lab
 simp only [hb0]
 clear hb0 S0
 refine wp_region_x (SA := fun uu => uu.cell? ⟨ab, ao, none⟩ = some (Value.slice (some ⟨g, o, none⟩) KL c) ∧ uu.cell? ⟨g, o + T * 2, none⟩ = some (Value.int .i64 t.1) ∧ uu.cell? ⟨g, o + T * 2 + 1, none⟩ = some (Value.int .i64 t.2)) (SB := fun _ => True) (k := 10) (by kernel_rfl) ?_
 have hn0 : Hid (Below Y.heap.size Y Y.drew) := (Below.refl _ _).drew
 have c0_0 := (hn0.out.cell (p := ⟨ab, ao, none⟩) laY).trans y1
 have c1_0 := (hn0.out.cell (p := ⟨g, o + T * 2, none⟩) lgY).trans y2
 have c2_0 := (hn0.out.cell (p := ⟨g, o + T * 2 + 1, none⟩) lgY).trans y3
 generalize Y.drew = n0 at *
 have hs0 : Hid ((fun uu => uu.cell? ⟨ab, ao, none⟩ = some (Value.slice (some ⟨g, o, none⟩) KL c) ∧ uu.cell? ⟨g, o + T * 2, none⟩ = some (Value.int .i64 t.1) ∧ uu.cell? ⟨g, o + T * 2 + 1, none⟩ = some (Value.int .i64 t.2)) n0) := ⟨c0_0, c1_0, c2_0⟩
 try go_simp
 refine tkT (i := 0) (v := Value.slice (some ⟨ab, ao, none⟩) 1 ac) rfl (by kernel_rfl) (fun _ _ _ h => by first | exact h | exact h.elim) (Sx.before (by kernel_rfl) hs0.out) (Or.inl ⟨by rfl, fun uu hu => by go_simp⟩) ?_
 try go_simp
 refine tkT (i := 1) (v := Value.pointer (some ⟨ab, ao, none⟩)) rfl (by kernel_rfl) (fun _ _ _ h => by first | exact h | exact h.elim) (Sx.before (by kernel_rfl) hs0.out) (Or.inl ⟨by rfl, fun uu hu => by go_simp⟩) ?_
 try go_simp
 refine tkX (i := 2) (v := Value.slice (some ⟨g, o, none⟩) KL c) rfl (by kernel_rfl) (fun _ _ _ h => by first | exact h | exact h.elim) hs0.out (Or.inl ⟨by rfl, fun uu hu => by obtain ⟨e0, e1, e2⟩ := hu; go_simp⟩) ?_
 try go_simp
 refine tkT (i := 3) (v := Value.slice (some ⟨ab, ao, none⟩) 1 ac) rfl (by kernel_rfl) (fun _ _ _ h => by first | exact h | exact h.elim) (Sx.before (by kernel_rfl) hs0.out) (Or.inl ⟨by rfl, fun uu hu => by go_simp⟩) ?_
 try go_simp
 refine tkT (i := 4) (v := Value.pointer (some ⟨ab, ao, none⟩)) rfl (by kernel_rfl) (fun _ _ _ h => by first | exact h | exact h.elim) (Sx.before (by kernel_rfl) hs0.out) (Or.inl ⟨by rfl, fun uu hu => by go_simp⟩) ?_
 try go_simp
 refine tkX (i := 5) (v := Value.slice (some ⟨g, o, none⟩) KL c) rfl (by kernel_rfl) (fun _ _ _ h => by first | exact h | exact h.elim) hs0.out (Or.inl ⟨by rfl, fun uu hu => by obtain ⟨e0, e1, e2⟩ := hu; go_simp⟩) ?_
 try go_simp
 refine tkT (i := 6) (v := Value.int .i64 (KL : Int)) rfl (by kernel_rfl) (fun _ _ _ h => by first | exact h | exact h.elim) (Sx.before (by kernel_rfl) hs0.out) (Or.inl ⟨by rfl, fun uu hu => by go_simp⟩) ?_
 try go_simp
 refine tkT (i := 7) (v := Value.int .i64 (T : Int)) rfl (by kernel_rfl) (fun _ _ _ h => by first | exact h | exact h.elim) (Sx.before (by kernel_rfl) hs0.out) (Or.inl ⟨by rfl, fun uu hu => by go_simp⟩) ?_
 try go_simp
 refine tkT (i := 8) (v := Value.pointer (some ⟨g, o + T * 2, none⟩)) rfl (by kernel_rfl) (fun _ _ _ h => by first | exact h | exact h.elim) (Sx.before (by kernel_rfl) hs0.out) (Or.inl ⟨by rfl, fun uu hu => by go_simp⟩) ?_
 try go_simp
 refine tkX (i := 9) (v := Value.agg #[.int .i64 t.1, .int .i64 t.2]) rfl (by kernel_rfl) (fun _ _ _ h => by first | exact h | exact h.elim) hs0.out (Or.inl ⟨by rfl, fun uu hu => by obtain ⟨e0, e1, e2⟩ := hu; go_simp⟩) ?_
 try go_simp
 refine wpAnyX_ready (rs := [10]) (by kernel_rfl) (by simp) (AllX.cons rfl (fun K hK => ?_) AllX.nil)
 have NY := kide (S1.out.later hn0.out)
 have e0 := NY.out.tpc HB0.out 0
 have f0 := NY.out.tpf HB0.out 0
 have e9 := NY.out.tpc HB0.out 1
 have f9 := NY.out.tpf HB0.out 1
 simp at e0 e9
 go_simp
 have N1 := kide (NY.out.set HB0.out t.1 t.2)
 have RY := kide (K3.out.later (NY.out.below HB0.out t.1 t.2))
 have yy : ((n0.setCell ⟨b0 + 1 + 1, 0, none⟩ (Value.int .i64 t.1)).setCell ⟨b0 + 1 + 1, 1, none⟩ (Value.int .i64 t.2)).cell? ⟨ab, ao, none⟩ = some (Value.slice (some ⟨g, o, none⟩) KL c) := by
  rw [World.cell?_of_block (w := n0)]
  ·exact c0_0
  ·rw [heap_setCell_other _ _ _ _ (by simp; omega), heap_setCell_other _ _ _ _ (by simp; omega)]
 generalize ((n0.setCell ⟨b0 + 1 + 1, 0, none⟩ (Value.int .i64 t.1)).setCell ⟨b0 + 1 + 1, 1, none⟩ (Value.int .i64 t.2)) = n1 at *
 refine hK _ _ (Sx.behind (by kernel_rfl) trivial) ?_
 clear hK K
 try go_simp
 refine wpAnyX_done (by kernel_rfl) ?_ _
 go_wp2_with (refine wpList_appL5t rfl _ _ rfl (w.heap.size + 1) _ [] ps rfl N1.out.nb.row g o KL c rfl HKL.out RY.out hll N1.out.nb.bx.lt ?_)
 intro v6 w6 ho6 hg6 hat6
 have N6 := kide (N1.out.app ho6 hg6 hat6 rfl)
 rw [List.nil_append] at N6
 clear ho6 hg6 hat6
 go_wp2_with fail
 go_loopw [7, 12] (fun v i wr => ∃ k : Nat, k ≤ An ∧ i = .int .i64 (k : Int) ∧ Nt w #[.int .i64 6, .int .i64 vr, .int .i64 (An : Int), .int .i64 Bb, .int .i64 bw, .slice wa nw wc, .slice ka nk kc] t v (ps ++ List.replicate k t) wr) (fun _ i _ => An - (intOf i).toNat)
 case atStart => exact ⟨0, Nat.zero_le _, rfl, by rw [List.replicate_zero, List.append_nil]; exact N6.out⟩
 case round =>
  obtain ⟨k, hk, rfl, hnb⟩ := hrel
  have c2 := hnb.nb.c HB0.out 2
  have t0 := hnb.tpc HB0.out 0
  have t1 := hnb.tpc HB0.out 1
  simp at c2 t0 t1
  have HNB := kide hnb
  have lbx := hnb.nb.bx.lt
  have ltp := hnb.tp.lt
  have lb9 := lbx
  have lt9 := ltp
  rw [HB0.out] at lb9 lt9
  clear hnb
  by_cases hlt : k < An
  ·have q1 : (k : Int) < (An : Int) := by omega
   have q2 : IntKind.i64.wrap ((k : Int) + 1) = (k : Int) + 1 := by rw [IntKind.wrap_i64]; omega
   have BA : Hid (Below wr.heap.size wr (wr.alloc (Obj.cells #[.int .i64 t.1, .int .i64 t.2] 74))) := (Below.refl _ _).alloc (Nat.le_refl _) _
   have XA := kide (rdp_one (t := t) (Bz.new wr #[.int .i64 t.1, .int .i64 t.2] 74))
   have NA := kide (HNB.out.later BA.out)
   have hll2 : (ps ++ List.replicate k t).length + [t].length ≤ 1073741824 := by have := HL.out; simp; omega
   have hsz2 : w.heap.size + 1 ≤ (wr.alloc (Obj.cells #[.int .i64 t.1, .int .i64 t.2] 74)).heap.size := by simp; omega
   go_wp2_with (refine wpList_appL5t rfl _ _ rfl (w.heap.size + 1) _ (ps ++ List.replicate k t) [t] rfl NA.out.nb.row wr.heap.size 0 1 _ rfl rfl XA.out hll2 hsz2 ?_)
   intro v7 w7 ho7 hg7 hat7
   rw [← List.append_assoc] at ho7
   have N7 := kide (NA.out.app ho7 hg7 hat7 (by simp))
   rw [rpl_snoc] at N7
   clear ho7 hg7 hat7
   go_wp2_with fail
   go_roundw
   case rel => exact ⟨k + 1, by omega, rfl, N7.out⟩
   case measure => simp only [intOf]; omega
  ·obtain rfl : k = An := by omega
   go_wp2_with fail
   exact bodyPost_ret (v := u7) (by simp [results, Try.results49, go_sem]) rfl ⟨u7, rfl, HNB.out.nb.row.lowB (Nat.le_succ _), HNB.out.nb.bel⟩
theorem rdp_nil (w : World) (g o : Nat) (l : List Ib) (h : l.length = 0) : RdP w (some ⟨g, o, none⟩) l := ⟨by omega, .inl (List.length_eq_zero_iff.1 h)⟩
theorem rdp_take {w : World} {g o : Nat} {ps : List Ib} (h : RdP w (some ⟨g, o, none⟩) ps) (n : Nat) : RdP w (some ⟨g, o, none⟩) (ps.take n) := by
 refine ⟨Nat.le_trans (by simp; omega) h.1, ?_⟩
 rcases h.2 with h2 | ⟨b, q, e, hc⟩
 ·left; rw [h2]; simp
 ·exact .inr ⟨b, q, e, fun i p hp => hc i p (by
   rw [List.getElem?_take] at hp
   split at hp
   ·exact hp
   ·cases hp)⟩
theorem rdp_drop {w : World} {g o : Nat} {ps : List Ib} (h : RdP w (some ⟨g, o, none⟩) ps) (n : Nat) : RdP w (some ⟨g, o + n * 2, none⟩) (ps.drop n) := by
 refine ⟨Nat.le_trans (by simp) h.1, ?_⟩
 rcases h.2 with h2 | ⟨b, q, e, hc⟩
 ·left; rw [h2]; simp
 ·cases e
  refine .inr ⟨g, o + n * 2, rfl, fun i p hp => ?_⟩
  rw [List.getElem?_drop] at hp
  have := hc (n + i) p hp
  rw [show o + (n + i) * 2 = o + n * 2 + i * 2 by omega] at this
  exact this
theorem ws_sub {a b c : Nat} (h : b < a) (ha : a ≤ 4096) (hc : c = a - b) : wrap64 ((a : Int) - (b : Int)) = (c : Int) := by unfold wrap64; omega
theorem ws_id {a : Nat} (ha : a ≤ 4096) : wrap64 (a : Int) = (a : Int) := by unfold wrap64; omega
set_option maxHeartbeats 2000000 in
set_option maxRecDepth 100000 in
theorem l5n7 {da wa ka aa : Option Addr} {dc nd nw wc nk kc na ac An KL Yb Z : Nat} {ps : List Ib} {vr Bb bw : Int} {w : World} (hk : Kb w aa [ps]) (hna : na = 1) (hA : An ≤ 4096) (hl : ps.length ≤ 4096) (hKL : ps.length = KL) (hp : 0 < KL) (hY : An % KL = Yb) (hZ : Z = KL - Yb) :
  Calls Try.prog 49 #[.slice da nd dc, .agg #[.int .i64 7, .int .i64 vr, .int .i64 (An : Int), .int .i64 Bb, .int .i64 bw, .slice wa nw wc, .slice ka nk kc], .slice aa na ac] w (RetNb (ps.drop Z ++ ps.take Z) w) := by
 subst hna
 have S0 := kide (Nb.start w #[.int .i64 7, .int .i64 vr, .int .i64 (An : Int), .int .i64 Bb, .int .i64 bw, .slice wa nw wc, .slice ka nk kc])
 obtain ⟨ab, ao, rfl, hk⟩ := hk
 obtain ⟨g, o, c, k1, k2, k3⟩ := hk 0 ps rfl
 rw [Nat.add_zero] at k1
 have HL := kide hl
 have lab := block_lt_of_cell k1
 rw [hKL] at k2 k1 hl
 have HKL := kide hKL
 have y1 := (S0.out.bel.cell (p := ⟨ab, ao, none⟩) lab).trans k1
 have K3 := kide k3
 have hYl : Yb < KL := by rw [← hY]; exact Nat.mod_lt _ hp
 have q0 : ¬(KL : Int) = 0 := by omega
 have q1 : (An : Int) % (KL : Int) = (Yb : Int) := by rw [← hY]; exact (Int.natCast_emod An KL).symm
 have q2 : wrap64 ((KL : Int) - (Yb : Int)) = (Z : Int) := ws_sub hYl hl hZ
 have q3 : Z ≤ KL := by rw [hZ]; exact Nat.sub_le _ _
 have q4 : Z ≤ c := Nat.le_trans q3 k2
 have hd1 : (ps.drop Z).length = KL - Z := by rw [List.length_drop, hKL]
 have ht1 : (ps.take Z).length = Z := by rw [List.length_take, hKL]; exact Nat.min_eq_left q3
 have hll : ([] : List Ib).length + (ps.drop Z).length ≤ 1073741824 := by rw [hd1, List.length_nil, Nat.zero_add]; exact Nat.le_trans (Nat.sub_le _ _) (Nat.le_trans hl (by decide))
 have hl2 : (ps.drop Z).length + (ps.take Z).length ≤ 1073741824 := by rw [hd1, ht1, Nat.sub_add_cancel q3]; exact Nat.le_trans hl (by decide)
 have hsz : w.heap.size + 1 ≤ ((w.alloc (Obj.cells #[.int .i64 7, .int .i64 vr, .int .i64 (An : Int), .int .i64 Bb, .int .i64 bw, .slice wa nw wc, .slice ka nk kc] 88)).alloc (Obj.cells #[] 74)).heap.size := by simp
 have HD1 := kide hd1
 have HT1 := kide ht1
 clear hk hKL k3 hY hZ hd1 ht1 hp hYl hl hA
 go_enter Try.func49, Try.ntmps49
 by_cases hcz : c = Z
 ·have RD := kide ((rdp_nil w g o (ps.drop Z) (by rw [HD1.out]; exact Nat.sub_eq_zero_of_le (hcz ▸ k2))).later S0.out.bel)
  go_wp2_with (refine wpList_appL5r rfl _ _ rfl (w.heap.size + 1) _ [] (ps.drop Z) rfl S0.out.row g o (KL - Z) _ rfl HD1.out RD.out hll hsz ?_)
  intro v6 w6 ho6 hg6
  have N6 := kide (S0.out.app ho6 hg6)
  rw [List.nil_append] at N6
  clear ho6 hg6
  have RT := kide ((rdp_take K3.out Z).later N6.out.bel)
  have y2 := (N6.out.bel.cell (p := ⟨ab, ao, none⟩) lab).trans k1
  go_wp2_with (refine wpList_appL5r rfl _ _ rfl (w.heap.size + 1) _ (ps.drop Z) (ps.take Z) rfl N6.out.row g o Z _ rfl HT1.out RT.out hl2 N6.out.bx.lt ?_)
  intro v7 w7 ho7 hg7
  have N7 := kide (N6.out.app ho7 hg7)
  clear ho7 hg7
  go_wp2_with fail
  exact bodyPost_ret (v := v7) (by simp [results, Try.results49, go_sem]) rfl ⟨v7, rfl, N7.out.row.lowB (Nat.le_succ _), N7.out.bel⟩
 ·have RD := kide ((rdp_drop K3.out Z).later S0.out.bel)
  go_wp2_with (refine wpList_appL5r rfl _ _ rfl (w.heap.size + 1) _ [] (ps.drop Z) rfl S0.out.row g (o + Z * 2) (KL - Z) _ rfl HD1.out RD.out hll hsz ?_)
  intro v6 w6 ho6 hg6
  have N6 := kide (S0.out.app ho6 hg6)
  rw [List.nil_append] at N6
  clear ho6 hg6
  have RT := kide ((rdp_take K3.out Z).later N6.out.bel)
  have y2 := (N6.out.bel.cell (p := ⟨ab, ao, none⟩) lab).trans k1
  go_wp2_with (refine wpList_appL5r rfl _ _ rfl (w.heap.size + 1) _ (ps.drop Z) (ps.take Z) rfl N6.out.row g o Z _ rfl HT1.out RT.out hl2 N6.out.bx.lt ?_)
  intro v7 w7 ho7 hg7
  have N7 := kide (N6.out.app ho7 hg7)
  clear ho7 hg7
  go_wp2_with fail
  exact bodyPost_ret (v := v7) (by simp [results, Try.results49, go_sem]) rfl ⟨v7, rfl, N7.out.row.lowB (Nat.le_succ _), N7.out.bel⟩
set_option maxHeartbeats 2000000 in
set_option maxRecDepth 100000 in
theorem l5n8 {da wa ka aa : Option Addr} {dc nd nw wc nk kc na ac An KL Yb Y2 Z : Nat} {ps : List Ib} {vr Bb bw : Int} {w : World} (hk : Kb w aa [ps]) (hna : na = 1) (hA : An ≤ 4096) (hl : ps.length ≤ 4096) (hKL : ps.length = KL) (hp : 0 < KL) (hY : An % KL = Yb) (hY2 : (KL - Yb) % KL = Y2) (hZ : Z = KL - Y2) :
  Calls Try.prog 49 #[.slice da nd dc, .agg #[.int .i64 8, .int .i64 vr, .int .i64 (An : Int), .int .i64 Bb, .int .i64 bw, .slice wa nw wc, .slice ka nk kc], .slice aa na ac] w (RetNb (ps.drop Z ++ ps.take Z) w) := by
 subst hna
 have S0 := kide (Nb.start w #[.int .i64 8, .int .i64 vr, .int .i64 (An : Int), .int .i64 Bb, .int .i64 bw, .slice wa nw wc, .slice ka nk kc])
 obtain ⟨ab, ao, rfl, hk⟩ := hk
 obtain ⟨g, o, c, k1, k2, k3⟩ := hk 0 ps rfl
 rw [Nat.add_zero] at k1
 have HL := kide hl
 have lab := block_lt_of_cell k1
 rw [hKL] at k2 k1 hl
 have HKL := kide hKL
 have y1 := (S0.out.bel.cell (p := ⟨ab, ao, none⟩) lab).trans k1
 have K3 := kide k3
 have hYl : Yb < KL := by rw [← hY]; exact Nat.mod_lt _ hp
 have q0 : ¬(KL : Int) = 0 := by omega
 have q1 : (An : Int) % (KL : Int) = (Yb : Int) := by rw [← hY]; exact (Int.natCast_emod An KL).symm
 have hY2l : Y2 < KL := by rw [← hY2]; exact Nat.mod_lt _ hp
 obtain ⟨D, hD⟩ : ∃ D, D = KL - Yb := ⟨_, rfl⟩
 rw [← hD] at hY2
 have q5 : wrap64 ((KL : Int) - (Yb : Int)) = (D : Int) := ws_sub hYl hl hD
 have q6 : (D : Int) % (KL : Int) = (Y2 : Int) := by rw [← hY2]; exact (Int.natCast_emod D KL).symm
 clear hY hY2 hD
 have q7 : wrap64 (Y2 : Int) = (Y2 : Int) := ws_id (Nat.le_trans (Nat.le_of_lt hY2l) hl)
 have q2 : wrap64 ((KL : Int) - (Y2 : Int)) = (Z : Int) := ws_sub hY2l hl hZ
 have q3 : Z ≤ KL := by rw [hZ]; exact Nat.sub_le _ _
 have q4 : Z ≤ c := Nat.le_trans q3 k2
 have hd1 : (ps.drop Z).length = KL - Z := by rw [List.length_drop, hKL]
 have ht1 : (ps.take Z).length = Z := by rw [List.length_take, hKL]; exact Nat.min_eq_left q3
 have hll : ([] : List Ib).length + (ps.drop Z).length ≤ 1073741824 := by rw [hd1, List.length_nil, Nat.zero_add]; exact Nat.le_trans (Nat.sub_le _ _) (Nat.le_trans hl (by decide))
 have hl2 : (ps.drop Z).length + (ps.take Z).length ≤ 1073741824 := by rw [hd1, ht1, Nat.sub_add_cancel q3]; exact Nat.le_trans hl (by decide)
 have hsz : w.heap.size + 1 ≤ ((w.alloc (Obj.cells #[.int .i64 8, .int .i64 vr, .int .i64 (An : Int), .int .i64 Bb, .int .i64 bw, .slice wa nw wc, .slice ka nk kc] 88)).alloc (Obj.cells #[] 74)).heap.size := by simp
 have HD1 := kide hd1
 have HT1 := kide ht1
 clear hY2l
 clear hk hKL k3 hZ hd1 ht1 hp hYl hl hA
 go_enter Try.func49, Try.ntmps49
 by_cases hcz : c = Z
 ·have RD := kide ((rdp_nil w g o (ps.drop Z) (by rw [HD1.out]; exact Nat.sub_eq_zero_of_le (hcz ▸ k2))).later S0.out.bel)
  go_wp2_with (refine wpList_appL5r rfl _ _ rfl (w.heap.size + 1) _ [] (ps.drop Z) rfl S0.out.row g o (KL - Z) _ rfl HD1.out RD.out hll hsz ?_)
  intro v6 w6 ho6 hg6
  have N6 := kide (S0.out.app ho6 hg6)
  rw [List.nil_append] at N6
  clear ho6 hg6
  have RT := kide ((rdp_take K3.out Z).later N6.out.bel)
  have y2 := (N6.out.bel.cell (p := ⟨ab, ao, none⟩) lab).trans k1
  go_wp2_with (refine wpList_appL5r rfl _ _ rfl (w.heap.size + 1) _ (ps.drop Z) (ps.take Z) rfl N6.out.row g o Z _ rfl HT1.out RT.out hl2 N6.out.bx.lt ?_)
  intro v7 w7 ho7 hg7
  have N7 := kide (N6.out.app ho7 hg7)
  clear ho7 hg7
  go_wp2_with fail
  exact bodyPost_ret (v := v7) (by simp [results, Try.results49, go_sem]) rfl ⟨v7, rfl, N7.out.row.lowB (Nat.le_succ _), N7.out.bel⟩
 ·have RD := kide ((rdp_drop K3.out Z).later S0.out.bel)
  go_wp2_with (refine wpList_appL5r rfl _ _ rfl (w.heap.size + 1) _ [] (ps.drop Z) rfl S0.out.row g (o + Z * 2) (KL - Z) _ rfl HD1.out RD.out hll hsz ?_)
  intro v6 w6 ho6 hg6
  have N6 := kide (S0.out.app ho6 hg6)
  rw [List.nil_append] at N6
  clear ho6 hg6
  have RT := kide ((rdp_take K3.out Z).later N6.out.bel)
  have y2 := (N6.out.bel.cell (p := ⟨ab, ao, none⟩) lab).trans k1
  go_wp2_with (refine wpList_appL5r rfl _ _ rfl (w.heap.size + 1) _ (ps.drop Z) (ps.take Z) rfl N6.out.row g o Z _ rfl HT1.out RT.out hl2 N6.out.bx.lt ?_)
  intro v7 w7 ho7 hg7
  have N7 := kide (N6.out.app ho7 hg7)
  clear ho7 hg7
  go_wp2_with fail
  exact bodyPost_ret (v := v7) (by simp [results, Try.results49, go_sem]) rfl ⟨v7, rfl, N7.out.row.lowB (Nat.le_succ _), N7.out.bel⟩
theorem flat_count : ∀ (l : List (List Ib)), (∀ k ∈ l, 1 ≤ k.length) → l.length ≤ l.flatten.length
 | [], _ => by simp
 | k :: t, h => by
  have h1 := h k (by simp)
  have h2 := flat_count t (fun x hx => h x (List.mem_cons_of_mem _ hx))
  simp only [List.length_cons, List.flatten_cons, List.length_append]
  omega
theorem l5Node_any {ds : List Dc} {all : List (List Ib)} {n : Tc} {w : World} (da wa ka aa : Option Addr) (dc nd wc kc na ac : Nat) (hd : RdD w da ds) (hnd : ds.length = nd) (hw : Rd w wa n.ws) (hk : Kb w aa (kidsB all n.ks)) (hna : n.ks.length = na) (hN : FNode ds all n) :
  Calls Try.prog 49 #[.slice da nd dc, .agg #[.int .i64 n.op, .int .i64 n.vr, .int .i64 n.a, .int .i64 n.b, .int .i64 n.bw, .slice wa n.ws.length wc, .slice ka n.ks.length kc], .slice aa na ac] w (RetNb (nodB ds all n) w) := by
 have hop := hN.op
 have hkid := hN.kid
 have hlen := hN.len
 have hvar := hN.var
 have hcst := hN.cst
 have hone := hN.one
 have hpart := hN.part
 have hamt := hN.amt
 have hrep := hN.rep
 clear hN
 obtain ⟨op, vr, A, Bb, bw, ws, ks⟩ := n
 simp only [] at hw hk hna hop hkid hvar hcst hone hpart hamt hrep hlen ⊢
 unfold nodB at hlen ⊢
 simp only [] at hlen ⊢
 rcases (show op = 1 ∨ op = 2 ∨ op = 3 ∨ 4 ≤ op by omega) with e | e | e | e
 ·subst e
  obtain ⟨⟨v1, v2⟩, v3, v4⟩ := hvar rfl
  obtain ⟨V, rfl⟩ : ∃ V : Nat, vr = (V : Int) := ⟨vr.toNat, by omega⟩
  rw [Int.toNat_natCast] at v3 v4 ⊢
  rw [if_pos rfl]
  exact l5n1 hd hnd (by omega) v3 v4
 ·subst e
  have hr := hcst rfl
  have hp := right_W hr
  obtain ⟨E, rfl⟩ : ∃ E : Nat, bw = (E : Int) := ⟨bw.toNat, by omega⟩
  rw [if_neg (by decide), if_pos rfl, Int.toNat_natCast]
  exact l5n2 hw hr
 ·subst e
  rw [if_neg (by decide), if_neg (by decide), if_pos rfl] at hlen ⊢
  have hc := flat_count (kidsB all ks).reverse (fun k hk9 => by
   rw [List.mem_reverse] at hk9
   unfold kidsB at hk9
   obtain ⟨j, hj, rfl⟩ := List.mem_map.1 hk9
   exact (hkid j hj).2.1)
  have hkl : (kidsB all ks).length = ks.length := by simp [kidsB]
  rw [List.length_reverse, hkl, hna] at hc
  exact l5n3 hk (by rw [hkl, hna]) (by omega) hlen.2
 ·obtain ⟨j, rfl⟩ := hone e
  obtain ⟨-, h1, h2, -⟩ := hkid j (by simp)
  have hkb : kidsB all [j] = [all.getD j.toNat []] := rfl
  rw [hkb] at hk hlen hpart ⊢
  have hg : [all.getD j.toNat []].getD 0 [] = all.getD j.toNat [] := rfl
  rw [hg] at hlen hpart ⊢
  generalize all.getD j.toNat [] = K at *
  have hna1 : na = 1 := by rw [← hna]; rfl
  have hsub : ∃ t, K[K.length - 1]? = some t := ⟨_, List.getElem?_eq_getElem (by omega)⟩
  clear hkid hd hnd hvar hcst hone hkb hg
  rcases (show op = 4 ∨ op = 5 ∨ op = 6 ∨ op = 7 ∨ op = 8 ∨ op = 9 by omega) with e | e | e | e | e | e
  ·subst e
   obtain ⟨p1, p2, p3⟩ := hpart rfl
   obtain ⟨An, rfl⟩ : ∃ An : Nat, A = (An : Int) := ⟨A.toNat, by omega⟩
   obtain ⟨Bn, rfl⟩ : ∃ Bn : Nat, Bb = (Bn : Int) := ⟨Bb.toNat, by omega⟩
   rw [if_neg (by decide), if_neg (by decide), if_neg (by decide), if_pos rfl, Int.toNat_natCast, Int.toNat_natCast]
   exact l5n4 hk hna1 h2 rfl (by omega) (by omega)
  ·subst e
   obtain ⟨a1, a2⟩ := hamt (by decide)
   obtain ⟨An, rfl⟩ : ∃ An : Nat, A = (An : Int) := ⟨A.toNat, by omega⟩
   rw [if_neg (by decide), if_neg (by decide), if_neg (by decide), if_neg (by decide), if_pos rfl, Int.toNat_natCast]
   exact l5n5 hk hna1 (by omega) h2
  ·subst e
   obtain ⟨a1, a2⟩ := hamt (by decide)
   obtain ⟨An, rfl⟩ : ∃ An : Nat, A = (An : Int) := ⟨A.toNat, by omega⟩
   obtain ⟨t, ht⟩ := hsub
   rw [if_neg (by decide), if_neg (by decide), if_neg (by decide), if_neg (by decide), if_neg (by decide), if_pos rfl, Int.toNat_natCast, show K.getD (K.length - 1) (-1, 0) = t by simp [List.getD, ht]]
   exact l5n6 hk hna1 (by omega) h2 ht
  ·subst e
   obtain ⟨a1, a2⟩ := hamt (by decide)
   obtain ⟨An, rfl⟩ : ∃ An : Nat, A = (An : Int) := ⟨A.toNat, by omega⟩
   rw [if_neg (by decide), if_neg (by decide), if_neg (by decide), if_neg (by decide), if_neg (by decide), if_neg (by decide), if_pos rfl, Int.toNat_natCast]
   exact l5n7 hk hna1 (by omega) h2 rfl (by omega) rfl rfl
  ·subst e
   obtain ⟨a1, a2⟩ := hamt (by decide)
   obtain ⟨An, rfl⟩ : ∃ An : Nat, A = (An : Int) := ⟨A.toNat, by omega⟩
   rw [if_neg (by decide), if_neg (by decide), if_neg (by decide), if_neg (by decide), if_neg (by decide), if_neg (by decide), if_neg (by decide), if_pos rfl, Int.toNat_natCast]
   exact l5n8 hk hna1 (by omega) h2 rfl (by omega) rfl rfl rfl
  ·subst e
   obtain ⟨a1, a2⟩ := hamt (by decide)
   obtain ⟨An, rfl⟩ : ∃ An : Nat, A = (An : Int) := ⟨A.toNat, by omega⟩
   rw [if_neg (by decide), if_neg (by decide), if_neg (by decide), if_neg (by decide), if_neg (by decide), if_neg (by decide), if_neg (by decide), if_neg (by decide), Int.toNat_natCast] at hlen ⊢
   exact l5n9 hk hna1 (by omega) hlen.2
end Go.Proofs.Ytffcklobignlfaa
