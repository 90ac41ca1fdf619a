/- Several texts in one. -/
import Derived.Test.YtljcfokiocbgoaaZUE
import Derived.Test.YtljcfokiocbgoaaZUB
import Derived.Test.YtljcfokiocbgoaaZUE
import Derived.Test.YtljcfokiocbgoaaTSF

/- copyBits of words that may have no place. -/
namespace Go.Proofs.Ytljcfokiocbgoaa
set_option linter.unusedVariables false
set_option linter.unusedSimpArgs false
open Go.RowKit

set_option maxHeartbeats 4000000 in
set_option maxRecDepth 100000 in
theorem copyW (bw : Int) (wa : Option Addr) (c n : Nat) (ws : List Nat) (w : World) (hr : Rd w wa ws) (hn : ws.length = n) (hw0 : wa = none → c = 0) :
    Calls Try.prog 47 #[.agg #[.int .i64 bw, .slice wa n c]] w fun e w' => ∃ a2 c2, e = .returned (.agg #[.int .i64 bw, .slice a2 n c2]) ∧ Nw w' w.heap.size a2 ws ∧ Below w.heap.size w w' := by
  have hb2 : Below w.heap.size w ((w.alloc (Obj.cells #[Value.int .i64 bw, Value.slice wa n c] 53)).alloc (Obj.cells #[Value.int .i64 0, Value.slice none 0 0] 53)) := ((Below.refl _ _).alloc (Nat.le_refl _) _).alloc (by simp) _
  have hr2 := hr.later hb2
  have XP := kide (Bz.later (Bz.new w #[Value.int .i64 bw, Value.slice wa n c] 53) ((Below.refl _ _).alloc (Nat.le_refl _) (Obj.cells #[Value.int .i64 0, Value.slice none 0 0] 53)))
  have XR : Hid (Bz ((w.alloc (Obj.cells #[Value.int .i64 bw, Value.slice wa n c] 53)).alloc (Obj.cells #[Value.int .i64 0, Value.slice none 0 0] 53)) (w.heap.size + 1) #[Value.int .i64 0, Value.slice none 0 0] 53) := by
    have h9 := Bz.new (w.alloc (Obj.cells #[Value.int .i64 bw, Value.slice wa n c] 53)) #[Value.int .i64 0, Value.slice none 0 0] 53
    rw [show (w.alloc (Obj.cells #[Value.int .i64 bw, Value.slice wa n c] 53)).heap.size = w.heap.size + 1 by simp] at h9
    exact h9
  have hlW : Hid (w.heap.size + 2 ≤ ((w.alloc (Obj.cells #[Value.int .i64 bw, Value.slice wa n c] 53)).alloc (Obj.cells #[Value.int .i64 0, Value.slice none 0 0] 53)).heap.size) := by show _ ≤ _; simp
  have hl := hr2.1
  have HC := kide (fun u (hu : Below w.heap.size w u) => hr.later hu)
  have HN := kide hn
  have BW := kide hb2
  clear hr hr2 hb2
  go_enter Try.func47, Try.ntmps47
  go_wp2_with fail
  generalize ((w.alloc (Obj.cells #[Value.int .i64 bw, Value.slice wa n c] 53)).alloc (Obj.cells #[Value.int .i64 0, Value.slice none 0 0] 53)) = W at *
  obtain ⟨b0, hb0⟩ : ∃ b0, w.heap.size = b0 := ⟨_, rfl⟩
  rw [hb0] at XP XR hlW
  simp only [hb0]
  have HB0 := kide hb0
  clear hb0
  refine wp_region_x (SA := fun _ => False) (SB := fun uu => uu.cell? ⟨b0, 0, none⟩ = some (Value.int .i64 bw) ∧ uu.cell? ⟨b0, 1, none⟩ = some (Value.slice wa n c)) (k := 999) (by kernel_rfl) ?_
  have hbd : Below W.heap.size W W.drew := (Below.refl _ _).drew
  have XP0 := kide (XP.out.later hbd)
  have XR0 := kide (XR.out.later hbd)
  have hu0 := kide hbd
  clear hbd
  generalize W.drew = u0 at *
  have c0_0 : u0.cell? ⟨b0, 0, none⟩ = some (Value.int .i64 bw) := XP0.out.cell 0
  have c1_0 : u0.cell? ⟨b0, 1, none⟩ = some (Value.slice wa n c) := XP0.out.cell 1
  have hs0 : Hid ((fun uu => uu.cell? ⟨b0, 0, none⟩ = some (Value.int .i64 bw) ∧ uu.cell? ⟨b0, 1, none⟩ = some (Value.slice wa n c)) u0) := ⟨c0_0, c1_0⟩
  try go_simp
  refine wpAnyX_both (T := (fun _ => True)) (i := 0) (v := Value.pointer (some ⟨b0, 0, none⟩)) rfl (by kernel_rfl) (by kernel_rfl) (by kernel_rfl) (fun _ _ _ h => by first | exact h | exact h.elim) (by decide) (fun _ _ => trivial) (fun _ _ => trivial) (Sx.behind (by kernel_rfl) hs0.out) (Or.inl ⟨by rfl, fun uu hu => by go_simp⟩) ?_
  try go_simp
  refine wpAnyX_both (T := (fun uu => uu.cell? ⟨b0, 0, none⟩ = some (Value.int .i64 bw) ∧ uu.cell? ⟨b0, 1, none⟩ = some (Value.slice wa n c))) (i := 1) (v := Value.int .i64 bw) rfl (by kernel_rfl) (by kernel_rfl) (by kernel_rfl) (fun _ _ _ h => by first | exact h | exact h.elim) (by decide) (fun _ h => h.elim) (fun _ h => h) (Sx.behind (by kernel_rfl) hs0.out) (Or.inl ⟨by rfl, fun uu hu => by obtain ⟨e0, e1⟩ := hu; go_simp⟩) ?_
  try go_simp
  refine wpAnyX_both (T := (fun _ => True)) (i := 2) (v := Value.pointer (some ⟨b0, 1, none⟩)) rfl (by kernel_rfl) (by kernel_rfl) (by kernel_rfl) (fun _ _ _ h => by first | exact h | exact h.elim) (by decide) (fun _ _ => trivial) (fun _ _ => trivial) (Sx.behind (by kernel_rfl) hs0.out) (Or.inl ⟨by rfl, fun uu hu => by go_simp⟩) ?_
  try go_simp
  refine wpAnyX_both (T := (fun uu => uu.cell? ⟨b0, 0, none⟩ = some (Value.int .i64 bw) ∧ uu.cell? ⟨b0, 1, none⟩ = some (Value.slice wa n c))) (i := 3) (v := Value.slice wa n c) rfl (by kernel_rfl) (by kernel_rfl) (by kernel_rfl) (fun _ _ _ h => by first | exact h | exact h.elim) (by decide) (fun _ h => h.elim) (fun _ h => h) (Sx.behind (by kernel_rfl) hs0.out) (Or.inl ⟨by rfl, fun uu hu => by obtain ⟨e0, e1⟩ := hu; go_simp⟩) ?_
  try go_simp
  refine wpAnyX_ready (rs := [4]) (by kernel_rfl) (by simp) (AllX.cons rfl (fun K hK => ?_) AllX.nil)
  refine step_appWr _ rfl _ _ rfl W.heap.size (.slice none 0 0) [] ws (by first | rfl | simp [Act.eval]) (OwW.nils _ _) wa c (by rw [HN.out]; first | rfl | simp [Act.eval]) hw0 (HC.out _ (BW.out.trans (hu0.out.mono BW.out.size))) (by simp; omega) hu0.out.size ?_
  intro v5 u1 how hgr
  obtain ⟨a5, c5, rfl, hn5⟩ := how.shape
  have hbg : Below W.heap.size u0 u1 := Below.grown (Below.refl _ _) hgr hu0.out.size (fun j hj => by cases hj)
  have NN1 := kide hn5
  have XP1 : Hid (Bz u1 b0 #[Value.int .i64 bw, Value.slice wa n c] 53) := (hbg.block b0 (by have := hlW.out; omega)).trans XP0.out
  have XR1 : Hid (Bz u1 (b0 + 1) #[Value.int .i64 0, Value.slice none 0 0] 53) := (hbg.block (b0 + 1) (by have := hlW.out; omega)).trans XR0.out
  have hu1 := kide (hu0.out.trans hbg)
  rw [List.nil_append, HN.out]
  rw [List.nil_append] at NN1
  clear how hgr hbg hn5
  have c0_1 : u1.cell? ⟨b0, 0, none⟩ = some (Value.int .i64 bw) := XP1.out.cell 0
  have c1_1 : u1.cell? ⟨b0, 1, none⟩ = some (Value.slice wa n c) := XP1.out.cell 1
  have hs1 : Hid ((fun uu => uu.cell? ⟨b0, 0, none⟩ = some (Value.int .i64 bw) ∧ uu.cell? ⟨b0, 1, none⟩ = some (Value.slice wa n c)) u1) := ⟨c0_1, c1_1⟩
  refine hK _ _ (Sx.behind (by kernel_rfl) hs1.out) ?_
  clear hK K
  try go_simp
  refine wpAnyX_both (T := (fun _ => True)) (i := 5) (v := Value.agg #[Value.int .i64 bw, Value.slice a5 n c5]) rfl (by kernel_rfl) (by kernel_rfl) (by kernel_rfl) (fun _ _ _ h => by first | exact h | exact h.elim) (by decide) (fun _ _ => trivial) (fun _ _ => trivial) (Sx.behind (by kernel_rfl) hs1.out) (Or.inl ⟨by rfl, fun uu hu => by go_simp⟩) ?_
  try go_simp
  refine wpAnyX_ready (rs := [6]) (by kernel_rfl) (by simp) (AllX.cons rfl (fun K hK => ?_) AllX.nil)
  have e0 : u1.cell? ⟨b0 + 1, 0, none⟩ = some (Value.int .i64 0) := XR1.out.cell 0
  have e1 : u1.cell? ⟨b0 + 1, 1, none⟩ = some (Value.slice none 0 0) := XR1.out.cell 1
  have f0 := XR1.out.froz 0
  have f1 := XR1.out.froz 1
  go_simp
  have XR2 : Hid (Bz ((u1.setCell ⟨b0 + 1, 0, none⟩ (Value.int .i64 bw)).setCell ⟨b0 + 1, 1, none⟩ (Value.slice a5 n c5)) (b0 + 1) #[Value.int .i64 bw, Value.slice a5 n c5] 53) := (XR1.out.set 0 _).set 1 _
  have XP2 : Hid (Bz ((u1.setCell ⟨b0 + 1, 0, none⟩ (Value.int .i64 bw)).setCell ⟨b0 + 1, 1, none⟩ (Value.slice a5 n c5)) b0 #[Value.int .i64 bw, Value.slice wa n c] 53) := (XP1.out.other (by omega) 0 _).other (by omega) 1 _
  have NN2 : Hid (Nw ((u1.setCell ⟨b0 + 1, 0, none⟩ (Value.int .i64 bw)).setCell ⟨b0 + 1, 1, none⟩ (Value.slice a5 n c5)) W.heap.size a5 ws) := nw_set (nw_set NN1.out XR1.out (by decide) 0 _) (XR1.out.set 0 (Value.int .i64 bw)) (by decide) 1 _
  have BB2 : Hid (Below w.heap.size w ((u1.setCell ⟨b0 + 1, 0, none⟩ (Value.int .i64 bw)).setCell ⟨b0 + 1, 1, none⟩ (Value.slice a5 n c5))) := ((BW.out.trans (hu1.out.mono BW.out.size)).setCell (by rw [HB0.out]; exact Nat.le_succ _) _).setCell (by rw [HB0.out]; exact Nat.le_succ _) _
  clear e0 e1 f0 f1
  generalize (u1.setCell ⟨b0 + 1, 0, none⟩ (Value.int .i64 bw)).setCell ⟨b0 + 1, 1, none⟩ (Value.slice a5 n c5) = u2 at *
  have c0_2 : u2.cell? ⟨b0, 0, none⟩ = some (Value.int .i64 bw) := XP2.out.cell 0
  have c1_2 : u2.cell? ⟨b0, 1, none⟩ = some (Value.slice wa n c) := XP2.out.cell 1
  have hs2 : Hid ((fun uu => uu.cell? ⟨b0, 0, none⟩ = some (Value.int .i64 bw) ∧ uu.cell? ⟨b0, 1, none⟩ = some (Value.slice wa n c)) u2) := ⟨c0_2, c1_2⟩
  refine hK _ _ (Sx.behind (by kernel_rfl) hs2.out) ?_
  clear hK K
  try go_simp
  refine wpAnyX_done (by kernel_rfl) ?_ _
  go_wp2_with fail
  have y0 : u2.cell? ⟨b0 + 1, 0, none⟩ = some (Value.int .i64 bw) := XR2.out.cell 0
  have y1 : u2.cell? ⟨b0 + 1, 1, none⟩ = some (Value.slice a5 n c5) := XR2.out.cell 1
  exact bodyPost_ret (v := Value.agg #[Value.int .i64 bw, Value.slice a5 n c5]) (by simp [results, Try.results47, go_sem, y0, y1]) rfl ⟨a5, ⟨c5, rfl⟩, Nw.mono NN2.out (by have := hlW.out; have := HB0.out; omega), BB2.out⟩

end Go.Proofs.Ytljcfokiocbgoaa

/- A table of nodes: its map is asked and told; what stays. -/
namespace Go.Proofs.Ytljcfokiocbgoaa
set_option linter.unusedVariables false
set_option linter.unusedSimpArgs false
open Go.RowKit Go.WideMaps Go.Maps Go.MapKept Go.ChangeMaps

theorem fndT_mem {l : List Tc} {x : Tc} (h : x ∈ l) : ∃ j, fndT l x = some j := by
  cases e : fndT l x with
  | some j => exact ⟨j, rfl⟩
  | none => exact absurd h (fndT_none e)
theorem zero64N (w : World) : (zeroValue 2).run Try.prog w = .ok (.int .i64 0) w := by kernel_rfl
theorem look_nodeC {u : World} {g n : Nat} {D : DataW Unit} {key : Value} {kl : Lit} (h : u.ownsMap Try.prog 89 (plainElem Try.prog 2) g n D) (hk : keyOf Try.prog 89 key = some kl) : ∃ c, D.atKey kl (.lit (.int .i64 0)) = .lit (.int .i64 c) ∧ (Lit.int .i64 c).wf = true := by
  obtain ⟨v, ps, hr, hv⟩ := h.look_ok nodeKeyed Try.underlying70 (zero64N u) (plainElem_int Try.underlying2 (by decide)) hk
  obtain ⟨c, rfl, hc, hw⟩ := plainElem_int_inv Try.underlying2 hv
  simp only [Prod.mk.injEq] at hc
  exact ⟨c, hc.1, hw⟩
theorem look_node {u : World} {g n : Nat} {D : DataW Unit} {key : Value} {kl : Lit} {c : Int} (h : u.ownsMap Try.prog 89 (plainElem Try.prog 2) g n D) (hk : keyOf Try.prog 89 key = some kl) (hc : D.atKey kl (.lit (.int .i64 0)) = .lit (.int .i64 c)) :
    (Instr.lookup 70 (.map (some g)) key true).run Try.prog u = .ok (.tuple #[.int .i64 c, .bool (Maps.has D kl)]) u := by
  obtain ⟨v, ps, hr, hv⟩ := h.look_ok nodeKeyed Try.underlying70 (zero64N u) (plainElem_int Try.underlying2 (by decide)) hk
  obtain ⟨c', rfl, hc', hw⟩ := plainElem_int_inv Try.underlying2 hv
  simp only [Prod.mk.injEq] at hc'
  rw [hc] at hc'
  have e : c = c' := by simpa using hc'.1
  rw [e]
  exact hr
theorem step_mapN (w : World) {ops : Array Oper} {o : Oper} {a : Act} {K : Act → World → Prop} {Q : Exit → Act → World → Prop} {E : Prop} (hgd : o.guard = none) (m x v : Operand) (hop : o.op = Op.mapUpdate 70 m x v)
    (g n : Nat) (D : DataW Unit) (hm : a.eval m = .map (some g)) (hown : w.ownsMap Try.prog 89 (plainElem Try.prog 2) g n D) (hn : n < maxLen) (key : Value) (kl : Lit) (c : Int) (hx : a.eval x = key) (hv : a.eval v = .int .i64 c) (hc : (Lit.int .i64 c).wf = true) (hkey : keyOf Try.prog 89 key = some kl)
    (h : ∀ w', w'.ownsMap Try.prog 89 (plainElem Try.prog 2) g (n + 1) (D.put kl (.lit (.int .i64 c))) → w.mapTurned w' g → K (a.put o.dst undef) w') :
    if Region.wanted o (yielded ops a.tmps) = true then Oper.wp Try.prog o a w K Q else E := by
  have hw : Region.wanted o (yielded ops a.tmps) = true := by simp [Region.wanted, hgd]
  rw [if_pos hw]
  obtain ⟨w', hrun, r1, r2⟩ := hown.store nodeKeyed Try.underlying70 hn hkey (plainElem_int Try.underlying2 hc)
  unfold Oper.wp
  simp [execOp, hop, hm, hx, hv, hrun, Result.andThen]
  exact h w' r1 r2

theorem turned_cellsN {w w' : World} {g b : Nat} {cs : Array Value} {t : TypeId} {fz : Nat × Nat} (h : w.mapTurned w' g) (hb : w.heap[b]? = some (.cells cs t fz)) : w'.heap[b]? = w.heap[b]? := by
  obtain ⟨es, clock, es', clock', hg, rfl⟩ := h
  refine heap_setBlock_other hg _ (fun e => ?_)
  subst e
  rw [hg] at hb
  cases hb
theorem Bz.turnedN {w w' : World} {g b : Nat} {cs : Array Value} {t : TypeId} (hb : Bz w b cs t) (h : w.mapTurned w' g) : Bz w' b cs t := (turned_cellsN h hb).trans hb
theorem Ts.turnedN {w w' : World} {B g : Nat} {v : Value} {l : List Tg} (h : Ts w B v l) (ht : w.mapTurned w' g) : Ts w' B v l :=
  ⟨h.row.move fun b hb => by obtain ⟨cur, hc⟩ := h.row.typed hb; exact turned_cellsN ht hc, fun x hx => (h.wn x hx).kept fun k cur hc => turned_cellsN ht hc, fun x hx => (h.kn x hx).kept fun k cur hc => turned_cellsN ht hc, h.wd, h.kd⟩
theorem Ni.turnedN {w w' : World} {lo g : Nat} {a : Option Addr} {xs : List Int} (h : Ni w lo a xs) (ht : w.mapTurned w' g) : Ni w' lo a xs := h.kept fun k cur hc => turned_cellsN ht hc
theorem Rd.turnedN {w w' : World} {g : Nat} {a : Option Addr} {xs : List Nat} (h : Rd w a xs) (ht : w.mapTurned w' g) : Rd w' a xs := by
  obtain ⟨h1, h2, h3⟩ := h
  refine ⟨h1, h2, ?_⟩
  rcases h3 with h3 | ⟨b, o, e, hc⟩
  · exact .inl h3
  · refine .inr ⟨b, o, e, fun i hi => ?_⟩
    have h9 := hc i hi
    obtain ⟨es, clock, es', clock', hg, rfl⟩ := ht
    by_cases e' : b = g
    · subst e'
      simp [World.cell?, hg] at h9
    · rw [← h9]
      simp only [World.cell?]
      rw [heap_setBlock_other hg _ (fun h => e' h)]

theorem FrA.trans {s g : Nat} {v : Value} {w w1 w2 : World} (h : FrA s g v w w1) (h2 : FrA s g v w1 w2) : FrA s g v w w2 :=
  ⟨h2.1.trans h.1, h2.2.1.trans h.2.1, h2.2.2.1.trans h.2.2.1, Nat.le_trans h.2.2.2.1 h2.2.2.2.1, fun k hk a b c => (h2.2.2.2.2 k (Nat.lt_of_lt_of_le hk h.2.2.2.1) a b c).trans (h.2.2.2.2 k hk a b c)⟩
theorem FrA.grown {s g : Nat} {v : Value} {w w' : World} (h : w.grownBy w' v.ownBlock) : FrA s g v w w' := ⟨h.os, h.tape, h.output, h.size, fun k hk _ _ c => h.block k hk (fun e => c e.symm)⟩
theorem FrA.turned {s g : Nat} {v : Value} {w w' : World} (h : w.mapTurned w' g) : FrA s g v w w' := by
  have h := h.grown
  exact ⟨h.os, h.tape, h.output, h.size, fun k hk _ b _ => h.block k hk (fun e => b (by cases e; rfl))⟩
theorem FrA.set {s g i : Nat} {v u : Value} {w : World} : FrA s g v w (w.setCell ⟨s, i, none⟩ u) := by
  have h : Below 0 w (w.setCell ⟨s, i, none⟩ u) := (Below.refl 0 w).setCell (Nat.zero_le _) _
  exact ⟨h.os, h.tape, h.output, h.size, fun k _ a _ _ => heap_setCell_other _ _ _ _ (fun e => a (by simpa using e))⟩
theorem nsvN {w : World} {s B : Nat} {cs : Array Value} {v : Value} {l : List Tg} {t : TypeId} (h : Bz w s cs t) (ht : t ≠ 57) (ho : OT w B v l) (e : some s = v.ownBlock) : False := by
  obtain ⟨cur, hc⟩ := ho.typed e.symm
  unfold Bz at h
  rw [h] at hc
  cases hc
  exact ht rfl
theorem nmvN {w : World} {g n B : Nat} {D : DataW Unit} {v : Value} {l : List Tg} (h : w.ownsMap Try.prog 89 (plainElem Try.prog 2) g n D) (ho : OT w B v l) (e : some g = v.ownBlock) : False := by
  obtain ⟨cur, hc⟩ := ho.typed e.symm
  obtain ⟨es, ck, hm⟩ := own_isMapN h
  rw [hm] at hc
  cases hc

end Go.Proofs.Ytljcfokiocbgoaa
