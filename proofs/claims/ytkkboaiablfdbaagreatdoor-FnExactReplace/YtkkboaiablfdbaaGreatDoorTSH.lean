/- A table of nodes: its map is asked and told; what stays. -/
import Derived.Test.YtkkboaiablfdbaaGreatDoorTSF
import Derived.Test.YtkkboaiablfdbaaGreatDoorTCB
namespace Go.Proofs.YtkkboaiablfdbaaGreatDoor
set_option linter.unusedVariables false
set_option linter.unusedSimpArgs false
open Go.RowKit Go.WideMaps Go.Maps Go.MapKept Go.ChangeMaps

theorem fndT_mem {l : List Tc} {x : Tc} (h : x ∈ l) : ∃ j, fndT l x = some j := by
  cases e : fndT l x with
  | some j => exact ⟨j, rfl⟩
  | none => exact absurd h (fndT_none e)
theorem zero64N (w : World) : (zeroValue 2).run Tryz.prog w = .ok (.int .i64 0) w := by kernel_rfl
theorem look_nodeC {u : World} {g n : Nat} {D : DataW Unit} {key : Value} {kl : Lit} (h : u.ownsMap Tryz.prog 100 (plainElem Tryz.prog 2) g n D) (hk : keyOf Tryz.prog 100 key = some kl) : ∃ c, D.atKey kl (.lit (.int .i64 0)) = .lit (.int .i64 c) ∧ (Lit.int .i64 c).wf = true := by
  obtain ⟨v, ps, hr, hv⟩ := h.look_ok nodeKeyed Tryz.underlying66 (zero64N u) (plainElem_int Tryz.underlying2 (by decide)) hk
  obtain ⟨c, rfl, hc, hw⟩ := plainElem_int_inv Tryz.underlying2 hv
  simp only [Prod.mk.injEq] at hc
  exact ⟨c, hc.1, hw⟩
theorem look_node {u : World} {g n : Nat} {D : DataW Unit} {key : Value} {kl : Lit} {c : Int} (h : u.ownsMap Tryz.prog 100 (plainElem Tryz.prog 2) g n D) (hk : keyOf Tryz.prog 100 key = some kl) (hc : D.atKey kl (.lit (.int .i64 0)) = .lit (.int .i64 c)) :
    (Instr.lookup 66 (.map (some g)) key true).run Tryz.prog u = .ok (.tuple #[.int .i64 c, .bool (Maps.has D kl)]) u := by
  obtain ⟨v, ps, hr, hv⟩ := h.look_ok nodeKeyed Tryz.underlying66 (zero64N u) (plainElem_int Tryz.underlying2 (by decide)) hk
  obtain ⟨c', rfl, hc', hw⟩ := plainElem_int_inv Tryz.underlying2 hv
  simp only [Prod.mk.injEq] at hc'
  rw [hc] at hc'
  have e : c = c' := by simpa using hc'.1
  rw [e]
  exact hr
theorem step_mapN (w : World) {ops : Array Oper} {o : Oper} {a : Act} {K : Act → World → Prop} {Q : Exit → Act → World → Prop} {E : Prop} (hgd : o.guard = none) (m x v : Operand) (hop : o.op = Op.mapUpdate 66 m x v)
    (g n : Nat) (D : DataW Unit) (hm : a.eval m = .map (some g)) (hown : w.ownsMap Tryz.prog 100 (plainElem Tryz.prog 2) g n D) (hn : n < maxLen) (key : Value) (kl : Lit) (c : Int) (hx : a.eval x = key) (hv : a.eval v = .int .i64 c) (hc : (Lit.int .i64 c).wf = true) (hkey : keyOf Tryz.prog 100 key = some kl)
    (h : ∀ w', w'.ownsMap Tryz.prog 100 (plainElem Tryz.prog 2) g (n + 1) (D.put kl (.lit (.int .i64 c))) → w.mapTurned w' g → K (a.put o.dst undef) w') :
    if Region.wanted o (yielded ops a.tmps) = true then Oper.wp Tryz.prog o a w K Q else E := by
  have hw : Region.wanted o (yielded ops a.tmps) = true := by simp [Region.wanted, hgd]
  rw [if_pos hw]
  obtain ⟨w', hrun, r1, r2⟩ := hown.store nodeKeyed Tryz.underlying66 hn hkey (plainElem_int Tryz.underlying2 hc)
  unfold Oper.wp
  simp [execOp, hop, hm, hx, hv, hrun, Result.andThen]
  exact h w' r1 r2

theorem turned_cellsN {w w' : World} {g b : Nat} {cs : Array Value} {t : TypeId} {fz : Nat × Nat} (h : w.mapTurned w' g) (hb : w.heap[b]? = some (.cells cs t fz)) : w'.heap[b]? = w.heap[b]? := by
  obtain ⟨es, clock, es', clock', hg, rfl⟩ := h
  refine heap_setBlock_other hg _ (fun e => ?_)
  subst e
  rw [hg] at hb
  cases hb
theorem Bz.turnedN {w w' : World} {g b : Nat} {cs : Array Value} {t : TypeId} (hb : Bz w b cs t) (h : w.mapTurned w' g) : Bz w' b cs t := (turned_cellsN h hb).trans hb
theorem Ts.turnedN {w w' : World} {B g : Nat} {v : Value} {l : List Tg} (h : Ts w B v l) (ht : w.mapTurned w' g) : Ts w' B v l :=
  ⟨h.row.move fun b hb => by obtain ⟨cur, hc⟩ := h.row.typed hb; exact turned_cellsN ht hc, fun x hx => (h.wn x hx).kept fun k cur hc => turned_cellsN ht hc, fun x hx => (h.kn x hx).kept fun k cur hc => turned_cellsN ht hc, h.wd, h.kd⟩
theorem Ni.turnedN {w w' : World} {lo g : Nat} {a : Option Addr} {xs : List Int} (h : Ni w lo a xs) (ht : w.mapTurned w' g) : Ni w' lo a xs := h.kept fun k cur hc => turned_cellsN ht hc
theorem Rd.turnedN {w w' : World} {g : Nat} {a : Option Addr} {xs : List Nat} (h : Rd w a xs) (ht : w.mapTurned w' g) : Rd w' a xs := by
  obtain ⟨h1, h2, h3⟩ := h
  refine ⟨h1, h2, ?_⟩
  rcases h3 with h3 | ⟨b, o, e, hc⟩
  · exact .inl h3
  · refine .inr ⟨b, o, e, fun i hi => ?_⟩
    have h9 := hc i hi
    obtain ⟨es, clock, es', clock', hg, rfl⟩ := ht
    by_cases e' : b = g
    · subst e'
      simp [World.cell?, hg] at h9
    · rw [← h9]
      simp only [World.cell?]
      rw [heap_setBlock_other hg _ (fun h => e' h)]

theorem FrA.trans {s g : Nat} {v : Value} {w w1 w2 : World} (h : FrA s g v w w1) (h2 : FrA s g v w1 w2) : FrA s g v w w2 :=
  ⟨h2.1.trans h.1, h2.2.1.trans h.2.1, h2.2.2.1.trans h.2.2.1, Nat.le_trans h.2.2.2.1 h2.2.2.2.1, fun k hk a b c => (h2.2.2.2.2 k (Nat.lt_of_lt_of_le hk h.2.2.2.1) a b c).trans (h.2.2.2.2 k hk a b c)⟩
theorem FrA.grown {s g : Nat} {v : Value} {w w' : World} (h : w.grownBy w' v.ownBlock) : FrA s g v w w' := ⟨h.os, h.tape, h.output, h.size, fun k hk _ _ c => h.block k hk (fun e => c e.symm)⟩
theorem FrA.turned {s g : Nat} {v : Value} {w w' : World} (h : w.mapTurned w' g) : FrA s g v w w' := by
  have h := h.grown
  exact ⟨h.os, h.tape, h.output, h.size, fun k hk _ b _ => h.block k hk (fun e => b (by cases e; rfl))⟩
theorem FrA.set {s g i : Nat} {v u : Value} {w : World} : FrA s g v w (w.setCell ⟨s, i, none⟩ u) := by
  have h : Below 0 w (w.setCell ⟨s, i, none⟩ u) := (Below.refl 0 w).setCell (Nat.zero_le _) _
  exact ⟨h.os, h.tape, h.output, h.size, fun k _ a _ _ => heap_setCell_other _ _ _ _ (fun e => a (by simpa using e))⟩
theorem nsvN {w : World} {s B : Nat} {cs : Array Value} {v : Value} {l : List Tg} {t : TypeId} (h : Bz w s cs t) (ht : t ≠ 53) (ho : OT w B v l) (e : some s = v.ownBlock) : False := by
  obtain ⟨cur, hc⟩ := ho.typed e.symm
  unfold Bz at h
  rw [h] at hc
  cases hc
  exact ht rfl
theorem nmvN {w : World} {g n B : Nat} {D : DataW Unit} {v : Value} {l : List Tg} (h : w.ownsMap Tryz.prog 100 (plainElem Tryz.prog 2) g n D) (ho : OT w B v l) (e : some g = v.ownBlock) : False := by
  obtain ⟨cur, hc⟩ := ho.typed e.symm
  obtain ⟨es, ck, hm⟩ := own_isMapN h
  rw [hm] at hc
  cases hc

end Go.Proofs.YtkkboaiablfdbaaGreatDoor
