/- Several texts in one. -/
import Derived.Test.YtljcfokiocbgoaaTSG
import Derived.Test.YtljcfokiocbgoaaZUD
import Derived.RangeFuncWrites
import Derived.Test.YtljcfokiocbgoaaZUG
import Derived.RangeFuncNested
import Derived.Test.YtljcfokiocbgoaaUFG
import Derived.Test.YtljcfokiocbgoaaUFE
import Derived.OwnWalkIn
import Derived.Deep.AppendLies
import Derived.Test.YtljcfokiocbgoaaZUH

/- A new table; where the kids of a node went. -/
namespace Go.Proofs.Ytljcfokiocbgoaa
set_option linter.unusedVariables false
set_option linter.unusedSimpArgs false
open Go.RowKit Go.WideMaps Go.Maps Go.MapKept Go.ChangeMaps

theorem make_nodes (w : World) : (Instr.makeMap 70 none).run Try.prog w = .ok (.map (some w.heap.size)) (w.alloc (.map #[] 0)) := by
  have h := Try.underlying70
  simp [Instr.makeMap, go_sem, h]

theorem newArena_any (w : World) : Calls Try.prog 25 #[] w fun e w' => ∃ s g, e = .returned (.pointer (some ⟨s, 0, none⟩)) ∧ Ar w' w.heap.size s g (.slice none 0 0) (.map []) [] ∧ Below w.heap.size w w' := by
  have hmm := make_nodes
  go_enter Try.func25, Try.ntmps25
  go_wp2_with fail
  go_ret
  have o4 : (w.alloc (.map #[] 0)).ownsMap Try.prog 89 (plainElem Try.prog 2) w.heap.size 0 (.map [] : DataW Unit) := World.ownsMap_made _ _ _ _
  have hb1 : Below w.heap.size w (w.alloc (.map #[] 0)) := (Below.refl _ _).alloc (Nat.le_refl _) _
  have hb2 : Below (w.alloc (.map #[] 0)).heap.size (w.alloc (.map #[] 0)) ((w.alloc (.map #[] 0)).alloc (Obj.cells #[Value.slice none 0 0, Value.map (some w.heap.size)] 72)) := (Below.refl _ _).alloc (Nat.le_refl _) _
  refine ⟨_, w.heap.size, rfl, ⟨Ts.nil _ _, ?_, own_belowN o4 (fun hl => hb2.block _ hl), Ak.start, by simp, Nat.le_refl _⟩, hb1.trans (hb2.mono hb1.size)⟩
  have h9 := Bz.new (w.alloc (.map #[] 0)) #[Value.slice none 0 0, Value.map (some w.heap.size)] 72
  rw [show (w.alloc (Obj.map #[] 0)).heap.size = w.heap.size + 1 by simp] at h9
  exact h9


end Go.Proofs.Ytljcfokiocbgoaa

/- What a table keeps while nodes are put into it. -/
namespace Go.Proofs.Ytljcfokiocbgoaa
set_option linter.unusedVariables false
set_option linter.unusedSimpArgs false
open Go.RowKit Go.WideMaps Go.Maps Go.MapKept Go.ChangeMaps

theorem Ni.fr {u u' : World} {lo B s g : Nat} {v : Value} {D : DataW Unit} {l : List Tg} {a : Option Addr} {xs : List Int} (h : Ni u lo a xs) (ha : Ar u B s g v D l) (hf : FrA s g v u u') : Ni u' lo a xs :=
  h.kept fun k cur hc => hf.2.2.2.2 k (lt_of_block hc) (fun e => by
      subst e
      have h9 := ha.box
      unfold Bz at h9
      rw [hc] at h9
      cases h9) (fun e => by
      subst e
      obtain ⟨es, ck, h9⟩ := own_isMapN ha.mp
      rw [hc] at h9
      cases h9) (fun e => by
      obtain ⟨cur', h9⟩ := ha.ts.row.typed e
      rw [hc] at h9
      cases h9)
theorem Bz.fr {u u' : World} {B s g b : Nat} {v : Value} {D : DataW Unit} {l : List Tg} {cs : Array Value} {t : TypeId} (h : Bz u b cs t) (ht : t ≠ 72) (ha : Ar u B s g v D l) (hv : v.ownBlock ≠ some b) (hf : FrA s g v u u') : Bz u' b cs t :=
  (hf.2.2.2.2 b h.lt (fun e => by
      subst e
      have h9 := ha.box
      unfold Bz at h9 h
      rw [h] at h9
      cases h9
      exact ht rfl) (fun e => by
      subst e
      obtain ⟨es, ck, h9⟩ := own_isMapN ha.mp
      unfold Bz at h
      rw [h] at h9
      cases h9) hv).trans h
theorem Below.fr {w0 u u' : World} {B s g : Nat} {v : Value} {D : DataW Unit} {l : List Tg} (h : Below B w0 u) (hB : B ≤ u.heap.size) (ha : Ar u B s g v D l) (hf : FrA s g v u u') : Below B w0 u' :=
  ⟨hf.1.trans h.os, hf.2.1.trans h.tape, hf.2.2.1.trans h.output, Nat.le_trans h.size hf.2.2.2.1, fun k hk => (hf.2.2.2.2 k (by omega) (fun e => by have := ha.le; omega) (fun e => by have := ha.le; omega) (fun e => by have := (ha.ts.row.lt e).1; omega)).trans (h.block k hk)⟩
theorem Ar.out {u : World} {B s g gp lo j : Nat} {v x : Value} {D : DataW Unit} {l : List Tg} {xs : List Int} (h : Ar u B s g v D l) (hp : Ni u lo (some ⟨gp, 0, none⟩) xs) (hx : xs ≠ []) (hk : ∀ y ∈ l, ∀ p, y.ka = some p → gp < p.block) : Ar (u.setCell ⟨gp, j, none⟩ x) B s g v D l := by
  rcases hp with ⟨h1, -⟩ | ⟨gp', cur, e, -, hc, -⟩
  · exact absurd h1 hx
  cases e
  have ot : ∀ (k : Nat) (cs : Array Value) (t : TypeId) (fz : Nat × Nat), t ≠ 2 → u.heap[k]? = some (.cells cs t fz) → (u.setCell ⟨gp, j, none⟩ x).heap[k]? = u.heap[k]? := fun k cs t fz ht hkk => heap_setCell_other _ _ _ _ (fun e => by
    simp only [] at e
    subst e
    rw [hc] at hkk
    cases hkk
    exact ht rfl)
  refine ⟨⟨h.ts.row.move fun b hb => ?_, fun y hy => (h.ts.wn y hy).kept fun k cur' hc' => ot k _ _ _ (by decide) hc', fun y hy => ?_, h.ts.wd, h.ts.kd⟩, ?_, own_belowN h.mp fun hg => ?_, h.ak, h.le⟩
  · obtain ⟨c, hc'⟩ := h.ts.row.typed hb
    exact ot _ _ _ _ (by decide) hc'
  · rcases h.ts.kn y hy with ⟨k1, k2⟩ | ⟨g', cur', k1, k2, k3, k4⟩
    · refine .inl ⟨k1, fun z e => ?_⟩
      obtain ⟨q1, q2, cur', q3⟩ := k2 z e
      exact ⟨q1, q2, cur', (heap_setCell_other _ _ _ _ (fun e' => by have := hk y hy z e; simp only [] at e'; omega)).trans q3⟩
    · exact .inr ⟨g', cur', k1, k2, (heap_setCell_other _ _ _ _ (fun e' => by have := hk y hy _ k1; simp only [] at e' this; omega)).trans k3, k4⟩
  · exact (ot _ _ _ _ (by decide) h.box).trans h.box
  · refine heap_setCell_other _ _ _ _ (fun e => ?_)
    simp only [] at e
    subst e
    obtain ⟨es, ck, h9⟩ := own_isMapN h.mp
    rw [hc] at h9
    cases h9

theorem mvT_rep {to : List Int} {m k : Nat} {n : Tc} (hl : to.length = k) (hk : ∀ j ∈ n.ks, 0 ≤ j ∧ j < (k : Int)) : (⟨n.op, n.vr, n.a, n.b, n.bw, n.ws, n.ks.map fun j => (to ++ List.replicate m 0).getD j.toNat 0⟩ : Tc) = mvT to n := by
  unfold mvT
  congr 1
  refine List.map_congr_left fun j hj => ?_
  have := hk j hj
  simp only [List.getD_eq_getElem?_getD]
  rw [List.getElem?_append_left (by omega)]
theorem put_rep {to : List Int} {m : Nat} {y : Int} : (to ++ List.replicate (m + 1) 0).set to.length y = (to ++ [y]) ++ List.replicate m 0 := by
  rw [List.set_append_right _ _ (Nat.le_refl _)]
  simp [List.replicate_succ]

end Go.Proofs.Ytljcfokiocbgoaa

/- What add tells, as a step of sharing. -/
namespace Go.Proofs.Ytljcfokiocbgoaa
set_option linter.unusedVariables false
set_option linter.unusedSimpArgs false
open Go.RowKit Go.WideMaps Go.Maps Go.MapKept Go.ChangeMaps

/-- What add tells is the next step of sharing. -/
theorem ad_step {l l' : List Tg} {st : List Tc × List Int} {n md : Tc} {i : Nat} (hm : md = mvT st.2 n) (hl : l.map Tg.ct = st.1) (h : match fndT (l.map Tg.ct) md with | some j => i = j ∧ l' = l | none => i = l.length ∧ l'.map Tg.ct = l.map Tg.ct ++ [md]) : l'.map Tg.ct = (shStep st n).1 ∧ i = plc st n := by
  subst hm
  rw [hl] at h
  unfold shStep plc
  cases e : fndT st.1 (mvT st.2 n) with
  | some j =>
    rw [e] at h
    obtain ⟨rfl, rfl⟩ := h
    exact ⟨hl, rfl⟩
  | none =>
    rw [e] at h
    obtain ⟨h1, h2⟩ := h
    refine ⟨h2, ?_⟩
    rw [h1, ← hl]
    simp
theorem mvT_nil (to : List Int) (op vr a b bw : Int) (ws : List Nat) : mvT to ⟨op, vr, a, b, bw, ws, []⟩ = ⟨op, vr, a, b, bw, ws, []⟩ := rfl
theorem Ni.none0 (w : World) (lo : Nat) : Ni w lo none [] := .inl ⟨rfl, fun x e => by cases e⟩

/-- Blocks of other kinds stay as they are; and what is no row of cells, but for the block g (the table's map). -/
def KpT (g : Nat) (w w' : World) : Prop := (∀ (b : Nat) (cur : Array Value) (t : TypeId) (fz : Nat × Nat), t ≠ 72 → t ≠ 57 → w.heap[b]? = some (.cells cur t fz) → w'.heap[b]? = w.heap[b]?) ∧ (∀ (b : Nat) (o : Obj), o.isCells = false → b ≠ g → w.heap[b]? = some o → w'.heap[b]? = some o) ∧ w.heap.size ≤ w'.heap.size
theorem KpT.of {g : Nat} {w w' : World} (h : Below w.heap.size w w') : KpT g w w' := ⟨fun b cur t fz _ _ hb => h.block b (lt_of_block hb), fun b o _ _ hb => (h.block b (Array.getElem?_eq_some_iff.1 hb).1).trans hb, h.size⟩
theorem KpT.trans {g : Nat} {w w1 w2 : World} (h : KpT g w w1) (h2 : KpT g w1 w2) : KpT g w w2 := ⟨fun b cur t fz h3 h4 hb => (h2.1 b cur t fz h3 h4 ((h.1 b cur t fz h3 h4 hb).trans hb)).trans (h.1 b cur t fz h3 h4 hb), fun b o ho hg hb => h2.2.1 b o ho hg (h.2.1 b o ho hg hb), Nat.le_trans h.2.2 h2.2.2⟩
theorem KpT.fr {w w' : World} {B s g : Nat} {v : Value} {D : DataW Unit} {l : List Tg} (ha : Ar w B s g v D l) (hf : FrA s g v w w') : KpT g w w' := by
  refine ⟨fun b cur t fz h3 h4 hb => hf.2.2.2.2 b (lt_of_block hb) (fun e => by
    subst e
    have h9 := ha.box
    unfold Bz at h9
    rw [hb] at h9
    cases h9
    exact h3 rfl) (fun e => by
    subst e
    obtain ⟨es, ck, h9⟩ := own_isMapN ha.mp
    rw [hb] at h9
    cases h9) (fun e => by
    obtain ⟨cur', h9⟩ := ha.ts.row.typed e
    rw [hb] at h9
    cases h9
    exact h4 rfl), fun b o ho hg hb => (hf.2.2.2.2 b (Array.getElem?_eq_some_iff.1 hb).1 (fun e => by
    subst e
    have h9 := ha.box
    unfold Bz at h9
    rw [hb] at h9
    cases h9
    cases ho) hg (fun e => by
    obtain ⟨cur', h9⟩ := ha.ts.row.typed e
    rw [hb] at h9
    cases h9
    cases ho)).trans hb, hf.2.2.2.1⟩
/-- A table that holds these nodes shared; the answer is where the last went; the kids of a new node lie from the block N on. -/
def RetSg (w0 w : World) (s g N : Nat) (l0 : List Tg) (ms : List Tc) (e : Ending) (w' : World) : Prop := ∃ (v : Value) (D : DataW Unit) (l : List Tg) (i : Nat), e = .returned (.int .i64 (i : Int)) ∧ Ar w' w0.heap.size s g v D l ∧ l.map Tg.ct = (shAll ms).1 ∧ (shAll ms).2.getLast? = some (i : Int) ∧ Below w0.heap.size w0 w' ∧ KpT g w w' ∧ ∀ x ∈ l, x ∈ l0 ∨ ∀ p, x.ka = some p → N ≤ p.block

theorem addN_any (s g N : Nat) (v : Value) (D : DataW Unit) (l : List Tg) (nd x : Tc) (wa nka ka : Option Addr) (wc nkn nkc kc : Nat) (ks : List Int) (ns : List Tc) (w0 w : World) (h0 : Below w0.heap.size w0 w) (ha : Ar w w0.heap.size s g v D l) (hr : Rd w wa nd.ws) (hw0 : wa = none → wc = 0) (hk : Ni w N ka ks) (hN : ∀ x ∈ l, (∀ p, x.wa = some p → p.block < N) ∧ ∀ p, x.ka = some p → p.block < N) (hBN : w0.heap.size ≤ N) (hNw : N ≤ w.heap.size) (hx : okN ⟨nd.op, nd.vr, nd.a, nd.b, nd.bw, nd.ws, ks⟩) (hl : l.length ≤ 100000) (hm : (⟨nd.op, nd.vr, nd.a, nd.b, nd.bw, nd.ws, ks⟩ : Tc) = mvT (shAll ns).2 x) (hc : l.map Tg.ct = (shAll ns).1) :
    Calls Try.prog 28 #[.pointer (some ⟨s, 0, none⟩), .agg #[Value.int .i64 nd.op, Value.int .i64 nd.vr, Value.int .i64 nd.a, Value.int .i64 nd.b, Value.int .i64 nd.bw, Value.slice wa nd.ws.length wc, Value.slice nka nkn nkc], .slice ka ks.length kc] w (RetSg w0 w s g N l (ns ++ [x])) := by
  refine (arenaAdd_any w0.heap.size s g N v D l nd wa nka ka wc nkn nkc kc ks w ha hr hw0 hk hN hBN hNw hx hl).mono ?_
  rintro e w' ⟨v', D', l', i, rfl, har, hfr, -, hnw, hmt⟩
  obtain ⟨h1, h2⟩ := ad_step hm hc hmt
  refine ⟨v', D', l', i, rfl, har, by rw [shAll_snoc]; exact h1, ?_, Below.fr h0 h0.size ha hfr, KpT.fr ha hfr, hnw⟩
  rw [shAll_snoc, shStep_to, h2]
  simp

theorem addNG_any (s g M N : Nat) (v : Value) (D : DataW Unit) (l : List Tg) (nd x : Tc) (wa nka ka : Option Addr) (wc nkn nkc kc : Nat) (ks : List Int) (ns : List Tc) (w0 w : World) (h0 : Below w0.heap.size w0 w) (ha : Ar w w0.heap.size s g v D l) (hr : Rd w wa nd.ws) (hw0 : wa = none → wc = 0) (hk : Ni w M ka ks) (hN : ∀ x ∈ l, ∀ p, x.wa = some p → p.block < N) (hap : ∀ x ∈ l, ∀ p q, x.ka = some p → ka = some q → p.block ≠ q.block) (hBM : w0.heap.size ≤ M) (hBN : w0.heap.size ≤ N) (hNw : N ≤ w.heap.size) (hx : okN ⟨nd.op, nd.vr, nd.a, nd.b, nd.bw, nd.ws, ks⟩) (hl : l.length ≤ 100000) (hm : (⟨nd.op, nd.vr, nd.a, nd.b, nd.bw, nd.ws, ks⟩ : Tc) = mvT (shAll ns).2 x) (hc : l.map Tg.ct = (shAll ns).1) :
    Calls Try.prog 28 #[.pointer (some ⟨s, 0, none⟩), .agg #[Value.int .i64 nd.op, Value.int .i64 nd.vr, Value.int .i64 nd.a, Value.int .i64 nd.b, Value.int .i64 nd.bw, Value.slice wa nd.ws.length wc, Value.slice nka nkn nkc], .slice ka ks.length kc] w (RetSg w0 w s g M l (ns ++ [x])) := by
  refine (arenaAddG_any w0.heap.size s g M N v D l nd wa nka ka wc nkn nkc kc ks w ha hr hw0 hk hN hap hBM hBN hNw hx hl).mono ?_
  rintro e w' ⟨v', D', l', i, rfl, har, hfr, -, hnw, hmt⟩
  obtain ⟨h1, h2⟩ := ad_step hm hc hmt
  refine ⟨v', D', l', i, rfl, har, by rw [shAll_snoc]; exact h1, ?_, Below.fr h0 h0.size ha hfr, KpT.fr ha hfr, hnw⟩
  rw [shAll_snoc, shStep_to, h2]
  simp

end Go.Proofs.Ytljcfokiocbgoaa

/- A segment is put into a table. -/
namespace Go.Proofs.Ytljcfokiocbgoaa
set_option linter.unusedVariables false
set_option linter.unusedSimpArgs false
open Go.RowKit Go.WideMaps Go.Maps Go.MapKept Go.ChangeMaps

/-- A segment that may stand in a right form. -/
def sgU (ds : List Dc) (x : Sc) : Prop := x.v = -1 ∧ rightB x.bw x.ws = true ∨ 0 ≤ x.v ∧ x.v < (ds.length : Int) ∧ 0 ≤ x.lo ∧ x.lo ≤ 4096 ∧ 1 ≤ x.wd ∧ x.wd ≤ 4096 ∧ x.wd ≤ dcW ds x.v

theorem in64c {x : Int} (h : -1000000 ≤ x ∧ x ≤ 1000000) : in64 x := ⟨by omega, by omega⟩
theorem Rd.none0 (w : World) : Rd w none [] := ⟨by simp, by simp, .inl rfl⟩
theorem okN_plain (op vr a b : Int) (h1 : in64 op) (h2 : in64 vr) (h3 : in64 a) (h4 : in64 b) {ks : List Int} (hk : ∀ j ∈ ks, 0 ≤ j ∧ j < 1048576) (hl : ks.length ≤ 1048576) : okN ⟨op, vr, a, b, 0, [], ks⟩ :=
  ⟨⟨h1, h2, h3, h4, in64c (x := 0) (by omega), by simp, by simp, hl, fun y hy => by have := hk y hy; exact ⟨by omega, by omega⟩⟩, ⟨.inr ⟨rfl, rfl⟩, by simp⟩, hk⟩
theorem len_shAll {ns : List Tc} (hk : aheadT ns) : (shAll ns).1.length ≤ ns.length ∧ (shAll ns).2.length = ns.length ∧ ∀ x ∈ (shAll ns).2, 0 ≤ x ∧ x < ((shAll ns).1.length : Int) := by
  have h := shTo_f hk ns.length (Nat.le_refl _)
  exact ⟨h.l1, h.l2, h.rg⟩

set_option maxHeartbeats 4000000 in
set_option maxRecDepth 100000 in
theorem addSeg_any (s g : Nat) (v : Value) (D : DataW Unit) (l : List Tg) (da : Option Addr) (dc : Nat) (ds : List Dc) (x : Sc) (wa : Option Addr) (wc : Nat) (ns : List Tc) (w0 w : World) (h0 : Below w0.heap.size w0 w) (ha : Ar w w0.heap.size s g v D l) (hd : RdD w0 da ds) (hr : Rd w0 wa x.ws) (hw0 : wa = none → wc = 0) (hc : l.map Tg.ct = (shAll ns).1) (hk : aheadT ns) (hn : ns.length ≤ 8000) (hx : sgU ds x) (hbw : in64 x.bw) :
    Calls Try.prog 27 #[.pointer (some ⟨s, 0, none⟩), .slice da ds.length dc, .agg #[.int .i64 x.v, .int .i64 x.lo, .int .i64 x.wd, .int .i64 x.bw, .slice wa x.ws.length wc]] w (RetSg w0 w s g w.heap.size l (ns ++ unf1 ds ns.length x)) := by
  have hb1 : Below w.heap.size w (w.alloc (Obj.cells #[Value.int .i64 x.v, Value.int .i64 x.lo, Value.int .i64 x.wd, Value.int .i64 x.bw, Value.slice wa x.ws.length wc] 55)) := (Below.refl _ _).alloc (Nat.le_refl _) _
  have HB1 := kide hb1
  have B1 := h0.trans (hb1.mono h0.size)
  have A1 := ha.later hb1
  have X1 := kide (Bz.new w #[Value.int .i64 x.v, Value.int .i64 x.lo, Value.int .i64 x.wd, Value.int .i64 x.bw, Value.slice wa x.ws.length wc] 55)
  obtain ⟨hs1, hs2, hs3⟩ := len_shAll hk
  have hll : l.length ≤ 100000 := by have : (l.map Tg.ct).length = l.length := by simp
                                     rw [hc] at this; omega
  rcases hx with ⟨hv, hw⟩ | ⟨hv0, hv1, hlo0, hlo1, hwd0, hwd1, hwd⟩
  · have hu : unf1 ds ns.length x = [⟨2, 0, 0, 0, x.bw, x.ws, []⟩] := by unfold unf1; rw [if_pos (by omega)]
    rw [hu]
    have HAD := kide (addN_any s g _ v D l ⟨2, 0, 0, 0, x.bw, x.ws, []⟩ ⟨2, 0, 0, 0, x.bw, x.ws, []⟩ wa none none wc 0 0 0 [] ns w0 _ B1 A1 (hr.later B1) hw0 (Ni.none0 _ _) A1.ts.below B1.size (Nat.le_refl _) ⟨⟨in64c (x := 2) (by omega), in64c (x := 0) (by omega), in64c (x := 0) (by omega), in64c (x := 0) (by omega), hbw, hr.1, hr.2.1, by simp, by simp⟩, ⟨.inl hw, hr.2.1⟩, by simp⟩ hll (mvT_nil _ _ _ _ _ _ _).symm hc)
    obtain ⟨sv, lo, wd, bw, ws⟩ := x
    simp only [] at *
    subst hv
    obtain ⟨nw, hnw⟩ : ∃ n, ws.length = n := ⟨_, rfl⟩
    rw [hnw] at HAD X1 HB1 ⊢
    clear hb1 B1 A1 h0 ha hd hr hc hk hs1 hs2 hs3 hw hu hnw
    go_enter Try.func27, Try.ntmps27
    go_wp2_with fail
    refine Calls.mono HAD.out ?_
    rintro e w2 ⟨v2, D2, l2, i, rfl, h1, h2, h3, h4, h5, h6⟩
    go_wp2_with fail
    exact bodyPost_ret (v := .int .i64 (i : Int)) (by simp [results, Try.results27, go_sem]) rfl ⟨v2, D2, l2, i, rfl, h1, h2, h3, h4, (KpT.of HB1.out).trans h5, fun y hy => (h6 y hy).imp id fun f p hp => Nat.le_trans HB1.out.size (f p hp)⟩
  · have hvn : ¬ x.v < 0 := by omega
    have hdl := hd.1
    obtain ⟨d, hdd⟩ : ∃ d, ds[x.v.toNat]? = some d := ⟨ds[x.v.toNat]'(by omega), List.getElem?_eq_getElem _⟩
    have hdw : dcW ds x.v = d.2 := by unfold dcW; rw [hdd]; rfl
    rw [hdw] at hwd
    have hu : unf1 ds ns.length x = if x.wd < d.2 then [⟨1, x.v, 0, 0, 0, [], []⟩, ⟨4, 0, x.lo + x.wd - 1, x.lo, 0, [], [(ns.length : Int)]⟩] else [⟨1, x.v, 0, 0, 0, [], []⟩] := by unfold unf1; rw [if_neg hvn, hdw]
    obtain ⟨M, hM⟩ : ∃ M, unf1 ds ns.length x = M := ⟨_, rfl⟩
    rw [hM]
    have HM := kide (hM.symm.trans hu)
    clear hM
    have HAD := kide (addN_any s g _ v D l ⟨1, x.v, 0, 0, 0, [], []⟩ ⟨1, x.v, 0, 0, 0, [], []⟩ none none none 0 0 0 0 [] ns w0 _ B1 A1 (Rd.none0 _) (fun _ => rfl) (Ni.none0 _ _) A1.ts.below B1.size (Nat.le_refl _) (okN_plain 1 x.v 0 0 (in64c (by omega)) ⟨by omega, by omega⟩ (in64c (by omega)) (in64c (by omega)) (by simp) (by simp)) hll (mvT_nil _ _ _ _ _ _ _).symm hc)
    have hk1 : aheadT (ns ++ [⟨1, x.v, 0, 0, 0, [], []⟩]) := hk.snoc (by simp)
    obtain ⟨ht1, ht2, ht3⟩ := len_shAll hk1
    have HT := kide (And.intro ht1 (And.intro ht2 ht3))
    have HD := kide hd
    have HDD := kide hdd
    obtain ⟨sv, lo, wd, bw, ws⟩ := x
    simp only [] at *
    obtain ⟨vn, rfl⟩ : ∃ vn : Nat, sv = (vn : Int) := ⟨sv.toNat, by omega⟩
    obtain ⟨nw, hnw⟩ : ∃ n, ws.length = n := ⟨_, rfl⟩
    rw [hnw] at HAD X1 HB1 ⊢
    have he : (((vn : Nat) : Int) == -1) = false := by simp
    have he1 : ¬ ((vn : Nat) : Int) = -1 := by omega
    have i0 : (vn : Int) < (ds.length : Int) := by omega
    clear hb1 B1 A1 h0 ha hd hr hc hk hs1 hs2 hs3 hu hnw hk1 ht1 ht2 ht3 hdd hdw
    go_enter Try.func27, Try.ntmps27
    go_wp2_with fail
    refine Calls.mono HAD.out ?_
    rintro e w2 ⟨v2, D2, l2, i, rfl, h1, h2, h3, h4, h5, h6⟩
    have X2 : Bz w2 w.heap.size #[Value.int .i64 (vn : Int), Value.int .i64 lo, Value.int .i64 wd, Value.int .i64 bw, Value.slice wa nw wc] 55 := (h5.1 _ _ _ _ (by decide) (by decide) X1.out).trans X1.out
    have q0 := X2.cell 0
    have q1 := X2.cell 1
    have q2 := X2.cell 2
    simp at q0 q1 q2
    obtain ⟨-, -, h | ⟨b3, o3, rfl, hcs⟩⟩ := HD.out.later h4
    · exfalso
      have h9 : ds.length = 0 := by rw [h]; rfl
      omega
    have q3 := (hcs vn d (by simpa using HDD.out)).2
    have HA2 := kide h1
    have HC2 := kide h2
    have HG2 := kide h3
    have HB2 := kide h4
    have HK2 := kide ((KpT.of HB1.out).trans h5)
    have HN2 : Hid (∀ y ∈ l2, y ∈ l ∨ ∀ p, y.ka = some p → w.heap.size ≤ p.block) := kide (fun y hy => (h6 y hy).imp id fun f p hp => Nat.le_trans HB1.out.size (f p hp))
    clear h1 h2 h3 h4 h5 h6 hcs X2 X1 HAD HB1
    by_cases e : wd = d.2
    · have e2 : (wd == d.2) = true := by simpa using e
      have hM2 := HM.out
      rw [if_neg (by omega)] at hM2
      subst hM2
      go_wp2_with fail
      go_quiet (fail)
      go_wp2_with fail
      have hbq : Below w2.heap.size w2 (w2.drewN nq) := below_drewN (Below.refl _ _) _
      replace HA2 := kide (HA2.out.later hbq)
      replace HB2 := kide (HB2.out.trans (hbq.mono HB2.out.size))
      replace HK2 := kide (HK2.out.trans (KpT.of hbq))
      clear hbq q0 q1 q2 q3
      generalize w2.drewN nq = w2 at *
      exact bodyPost_ret (v := .int .i64 (i : Int)) (by simp [results, Try.results27, go_sem]) rfl ⟨v2, D2, l2, i, rfl, HA2.out, HC2.out, HG2.out, HB2.out, HK2.out, HN2.out⟩
    · have e2 : (wd == d.2) = false := by simpa using e
      have hM2 := HM.out
      rw [if_pos (by omega)] at hM2
      subst hM2
      clear HM
      have hz1 : wrap64 (lo + wd) = lo + wd := by unfold wrap64; omega
      have hz2 : wrap64 (lo + wd - 1) = lo + wd - 1 := by unfold wrap64; omega
      go_wp2_with fail
      go_quiet (fail)
      go_wp2_with fail
      have hbq : Below w2.heap.size w2 (w2.drewN nq) := below_drewN (Below.refl _ _) _
      replace HA2 := kide (HA2.out.later hbq)
      replace HB2 := kide (HB2.out.trans (hbq.mono HB2.out.size))
      replace HK2 := kide (HK2.out.trans (KpT.of hbq))
      clear hbq q0 q1 q2 q3
      have hsz9 : w2.heap.size = (w2.drewN nq).heap.size := by simp
      rw [hsz9]
      clear hsz9
      generalize w2.drewN nq = w2 at *
      have hbk : Below w2.heap.size w2 (w2.alloc (Obj.cells #[Value.int .i64 (i : Int)] 2)) := (Below.refl _ _).alloc (Nat.le_refl _) _
      have hri : 0 ≤ (i : Int) ∧ (i : Int) < ((shAll (ns ++ [⟨1, (vn : Int), 0, 0, 0, [], []⟩])).1.length : Int) := HT.out.2.2 _ (List.mem_of_getLast? HG2.out)
      have hlt1 := HT.out.1
      have hl2 := HT.out.2.1
      rw [List.length_append, List.length_singleton] at hlt1 hl2
      have hll2 : l2.length ≤ 100000 := by
        have h9 : (l2.map Tg.ct).length = l2.length := by simp
        rw [HC2.out] at h9
        omega
      have hgd : (shAll (ns ++ [⟨1, (vn : Int), 0, 0, 0, [], []⟩])).2.getD ns.length 0 = (i : Int) := by
        have h9 := HG2.out
        rw [List.getLast?_eq_getElem?, hl2] at h9
        rw [List.getD_eq_getElem?_getD]
        simp at h9
        rw [h9]
        rfl
      have B3 := HB2.out.trans (hbk.mono HB2.out.size)
      have A3 := HA2.out.later hbk
      have h9 := addN_any s g w2.heap.size v2 D2 l2 ⟨4, 0, lo + wd - 1, lo, 0, [], [(i : Int)]⟩ ⟨4, 0, lo + wd - 1, lo, 0, [], [(ns.length : Int)]⟩ none none (some ⟨w2.heap.size, 0, none⟩) 0 0 0 1 [(i : Int)] (ns ++ [⟨1, (vn : Int), 0, 0, 0, [], []⟩]) w0 _ B3 A3 (Rd.none0 _) (fun _ => rfl) (.inr ⟨w2.heap.size, #[Value.int .i64 (i : Int)], rfl, Nat.le_refl _, heap_alloc_new _ _, fun j hj => by simp at hj; subst hj; rfl⟩) HA2.out.ts.below HB2.out.size hbk.size (okN_plain 4 0 (lo + wd - 1) lo (in64c (by omega)) (in64c (by omega)) (in64c (by omega)) (in64c (by omega)) (fun j hj => by simp at hj; subst hj; omega) (by simp)) hll2 (by unfold mvT; simp; rw [← hgd, List.getD_eq_getElem?_getD]) HC2.out
      simp only [List.length_cons, List.length_nil, Nat.zero_add] at h9
      refine Calls.mono h9 ?_
      rintro e w3 ⟨v3, D3, l3, i3, rfl, h1, h2, h3, h4, h5, h6⟩
      have HF : Hid (RetSg w0 w s g w.heap.size l (ns ++ [⟨1, (vn : Int), 0, 0, 0, [], []⟩, ⟨4, 0, lo + wd - 1, lo, 0, [], [(ns.length : Int)]⟩]) (.returned (.int .i64 (i3 : Int))) w3) := by
        rw [List.append_assoc] at h2 h3
        exact ⟨v3, D3, l3, i3, rfl, h1, h2, h3, h4, (HK2.out.trans (KpT.of hbk)).trans h5, fun y hy => (h6 y hy).elim (fun h => HN2.out y h) fun f => .inr fun p hp => Nat.le_trans HK2.out.2.2 (f p hp)⟩
      clear h1 h2 h3 h4 h5 h6 h9 hbk hri hlt1 hl2 hll2 hgd B3 A3
      go_wp2_with fail
      exact bodyPost_ret (v := .int .i64 (i3 : Int)) (by simp [results, Try.results27, go_sem]) rfl HF.out

end Go.Proofs.Ytljcfokiocbgoaa

/- The program's Unflat between two rounds of its loop: what lies in memory, and what it tells. -/
namespace Go.Proofs.Ytljcfokiocbgoaa
set_option linter.unusedVariables false
set_option linter.unusedSimpArgs false
open Go.RowKit Go.Shelf Go.WideMaps Go.Maps Go.MapKept Go.ChangeMaps

/-- The segments that have come, the last one first. -/
def cmS (xs : List Sg) {n : Nat} (pre : List (Fin n)) : List Sc := (pre.map fun x : Fin n => (sgN xs x).ct).reverse
theorem cmS_snoc (xs : List Sg) {n : Nat} (pre : List (Fin n)) (x : Fin n) : cmS xs (pre ++ [x]) = (sgN xs x).ct :: cmS xs pre := by simp [cmS]
theorem cmS_len (xs : List Sg) {n : Nat} (pre : List (Fin n)) : (cmS xs pre).length = pre.length := by simp [cmS]
theorem cmS_all {xs : List Sg} {n : Nat} (hl : xs.length = n) (h0 : 0 < n) : cmS xs (bwd n h0 n) = xs.map Sg.ct := by
  apply List.ext_getElem?
  intro i
  unfold cmS bwd
  by_cases hi : i < n
  · rw [List.getElem?_reverse (by simpa using hi)]
    simp only [List.length_map, List.length_range, List.map_map, List.getElem?_map, List.getElem?_range (show n - 1 - i < n by omega), Option.map_some, Function.comp]
    rw [show n - 1 - (n - 1 - i) = i by omega]
    have hx : xs[i]? = some (xs[i]'(by omega)) := List.getElem?_eq_getElem (by omega)
    rw [hx]
    simp [sgN, List.getD, hx]
  · rw [List.getElem?_eq_none (by simp; omega), List.getElem?_eq_none (by simp; omega)]

/-- The nodes so far, and where each segment's last one went. -/
def ndS (ds : List Dc) (xs : List Sg) {n : Nat} (pre : List (Fin n)) : List Tc := (unfTo ds (cmS xs pre)).1
def kdS (ds : List Dc) (xs : List Sg) {n : Nat} (pre : List (Fin n)) : List Int := (unfTo ds (cmS xs pre)).2.map fun i => (shAll (ndS ds xs pre)).2.getD i.toNat 0
theorem ndS_snoc (ds : List Dc) (xs : List Sg) {n : Nat} (pre : List (Fin n)) (x : Fin n) : ndS ds xs (pre ++ [x]) = ndS ds xs pre ++ unf1 ds (ndS ds xs pre).length (sgN xs x).ct := by
  unfold ndS
  rw [cmS_snoc, unfTo]
theorem shAll_ext (ns ms : List Tc) (h : aheadT (ns ++ ms)) : ∀ i, i < ns.length → (shAll (ns ++ ms)).2.getD i 0 = (shAll ns).2.getD i 0 := by
  intro i hi
  have key : ∀ k, ns.length ≤ k → k ≤ (ns ++ ms).length → (shTo (ns ++ ms) k).2.getD i 0 = (shTo ns ns.length).2.getD i 0 := by
    intro k hk
    induction k with
    | zero => omega
    | succ k ih =>
      intro hkl
      by_cases e : ns.length = k + 1
      · rw [← e, shTo_app ns ms _ (Nat.le_refl _)]
      · have hk2 : (ns ++ ms)[k]? = some ((ns ++ ms)[k]'(by omega)) := List.getElem?_eq_getElem (by omega)
        rw [shTo_succ hk2, shStep_to, ← ih (by omega) (by omega)]
        have hl := (shTo_f h k (by omega)).l2
        rw [List.getD_eq_getElem?_getD, List.getD_eq_getElem?_getD, List.getElem?_append_left (by omega)]
  exact key _ (by simp) (Nat.le_refl _)
theorem kdS_snoc (ds : List Dc) (xs : List Sg) {n : Nat} (pre : List (Fin n)) (x : Fin n) {i : Nat} (hi : (shAll (ndS ds xs (pre ++ [x]))).2.getLast? = some (i : Int)) : kdS ds xs (pre ++ [x]) = kdS ds xs pre ++ [(i : Int)] := by
  have hah : aheadT (ndS ds xs (pre ++ [x])) := unfTo_ahead ds _
  have hkd := unfTo_kids ds (cmS xs pre)
  have hl := (len_shAll hah).2.1
  have hnd := ndS_snoc ds xs pre x
  have e2 : (unfTo ds (cmS xs (pre ++ [x]))).2 = (unfTo ds (cmS xs pre)).2 ++ [((ndS ds xs (pre ++ [x])).length : Int) - 1] := by
    have : (unfTo ds (cmS xs (pre ++ [x]))).1 = ndS ds xs (pre ++ [x]) := rfl
    rw [← this, cmS_snoc, unfTo]
  have h1 := unf1_len ds (ndS ds xs pre).length (sgN xs x).ct
  unfold kdS
  rw [e2, List.map_append]
  congr 1
  · refine List.map_congr_left fun z hz => ?_
    have h9 := hkd z hz
    rw [hnd]
    rw [hnd] at hah
    exact shAll_ext _ _ hah _ (by unfold ndS; omega)
  · simp only [List.map_cons, List.map_nil]
    congr 1
    rw [List.getLast?_eq_getElem?, hl] at hi
    rw [List.getD_eq_getElem?_getD, show (((ndS ds xs (pre ++ [x])).length : Int) - 1).toNat = (ndS ds xs (pre ++ [x])).length - 1 by omega, hi]
    rfl

/-- What lies in memory between two rounds. -/
structure UnS (w1 : World) (b0 A s g L0 : Nat) (da : Option Addr) (dn dc : Nat) (ds : List Dc) (xs : List Sg) {n : Nat} (pre : List (Fin n)) (W : World) : Prop where
  xd : Bz W b0 #[Value.slice da dn dc] 31
  xr : Bz W (b0 + 1) #[Value.slice none 0 0] 28
  xa : Bz W A #[Value.pointer (some ⟨s, 0, none⟩)] 63
  xb : ∃ sv, Bz W (A + 2) #[sv] 33
  tk : ∃ v D l ka kc, Ar W w1.heap.size s g v D l ∧ l.map Tg.ct = (shAll (ndS ds xs pre)).1 ∧ Bz W (A + 1) #[Value.slice ka pre.length kc] 52 ∧ OI W L0 (.slice ka pre.length kc) (kdS ds xs pre) ∧ ∀ y ∈ l, ∀ p, y.ka = some p → (Value.slice ka pre.length kc).ownBlock ≠ some p.block
  bl : Below w1.heap.size w1 W
  sz : L0 ≤ W.heap.size

theorem bz_own {W W' : World} {b : Nat} {cs : Array Value} {t : TypeId} {row : Option Nat} (h : Bz W b cs t) (hg : W.grownBy W' row) (hr : ∀ r, row = some r → ∃ o : Obj, W.heap[r]? = some o ∧ o.isCells = false) : Bz W' b cs t := by
  unfold Bz at h ⊢
  rw [hg.block b (lt_of_block h) (fun e => ?_)]
  · exact h
  · obtain ⟨o, h1, h2⟩ := hr b e.symm
    rw [h] at h1
    cases h1
    cases h2

theorem UnS.own {w1 : World} {b0 A s g L0 : Nat} {da : Option Addr} {dn dc : Nat} {ds : List Dc} {xs : List Sg} {n : Nat} (hg0 : g < L0) (h1 : w1.heap.size ≤ L0) : OwnFrom L0 (fun (pre : List (Fin n)) W => UnS w1 b0 A s g L0 da dn dc ds xs pre W) := by
  intro pre W W' row h hg hr
  have hr2 : ∀ r, row = some r → ∃ o : Obj, W.heap[r]? = some o ∧ o.isCells = false := fun r e => (hr r e).2
  have keepC : ∀ (k : Nat) (cur : Array Value) (t : TypeId) (fz : Nat × Nat), W.heap[k]? = some (.cells cur t fz) → W'.heap[k]? = W.heap[k]? := fun k cur t fz hc => hg.block k (lt_of_block hc) (fun e => by
    obtain ⟨o, h8, h9⟩ := hr2 k e.symm
    rw [hc] at h8
    cases h8
    cases h9)
  obtain ⟨v, D, l, ka, kc, ha, he, hk1, hk2, hk3⟩ := h.tk
  obtain ⟨sv, hxb⟩ := h.xb
  refine ⟨bz_own h.xd hg hr2, bz_own h.xr hg hr2, bz_own h.xa hg hr2, ⟨sv, bz_own hxb hg hr2⟩, ⟨v, D, l, ka, kc, ⟨⟨ha.ts.row.move fun b hb => ?_, fun x hx => (ha.ts.wn x hx).kept fun k cur hc => keepC k cur _ _ hc, fun x hx => (ha.ts.kn x hx).kept fun k cur hc => keepC k cur _ _ hc, ha.ts.wd, ha.ts.kd⟩, bz_own ha.box hg hr2, own_belowN ha.mp fun hgl => hg.block g hgl (fun e => by have := (hr g e.symm).1; omega), ha.ak, ha.le⟩, he, bz_own hk1 hg hr2, hk2.move fun b hb => ?_, hk3⟩, h.bl.grown hg h.bl.size (fun k e => by have := (hr k e).1; omega), Nat.le_trans h.sz hg.size⟩
  · obtain ⟨c, hc⟩ := ha.ts.row.typed hb
    exact keepC b c _ _ hc
  · obtain ⟨c, hc⟩ := hk2.typed9 hb
    exact keepC b c _ _ hc
theorem UnS.later {w1 : World} {b0 A s g L0 : Nat} {da : Option Addr} {dn dc : Nat} {ds : List Dc} {xs : List Sg} {n : Nat} {pre : List (Fin n)} {W W' : World} (h : UnS w1 b0 A s g L0 da dn dc ds xs pre W) (hb : Below W.heap.size W W') : UnS w1 b0 A s g L0 da dn dc ds xs pre W' := by
  obtain ⟨v, D, l, ka, kc, ha, he, hk1, hk2, hk3⟩ := h.tk
  obtain ⟨sv, hxb⟩ := h.xb
  exact ⟨h.xd.later hb, h.xr.later hb, h.xa.later hb, ⟨sv, hxb.later hb⟩, ⟨v, D, l, ka, kc, ha.later hb, he, hk1.later hb, hk2.later hb, hk3⟩, h.bl.trans (hb.mono h.bl.size), Nat.le_trans h.sz hb.size⟩

end Go.Proofs.Ytljcfokiocbgoaa

/- The end of a round of the program's Unflat: the append, and what then lies in memory. -/
namespace Go.Proofs.Ytljcfokiocbgoaa
set_option linter.unusedVariables false
set_option linter.unusedSimpArgs false
open Go.RowKit Go.Shelf Go.WideMaps Go.Maps Go.MapKept Go.ChangeMaps

theorem stepIn_appI {F : Fence} {nn : Nat} (w : World) {ops : Array Oper} {o : Oper} {a : Act} {K : Act → World → Prop} {Q : Exit → Act → World → Prop} {E : Prop} (hgd : o.guard = none) (s x : Operand)
    (ho : o.op = .call { callee := .builtin .append, args := #[s, x], argTypes := #[52, 52] })
    (B : Nat) (v : Value) (l : List Int) (y : Int) (hs : a.eval s = v) (hown : OI w B v l) (gx c : Nat) (hx : a.eval x = .slice (some ⟨gx, 0, none⟩) 1 c)
    (h0 : w.cell? ⟨gx, 0, none⟩ = some (.int .i64 y)) (hl : l.length ≤ 1073741824) (hB : B ≤ w.heap.size)
    (h : ∀ g cap w', OI w' B (.slice (some ⟨g, 0, none⟩) (l.length + 1) cap) (l ++ [y]) → w.grownBy w' v.ownBlock → (v.ownBlock = some g ∨ g = w.heap.size) → K (a.put o.dst (.slice (some ⟨g, 0, none⟩) (l.length + 1) cap)) w') :
    if Region.wanted o (yielded ops a.tmps) = true then Oper.wpIn F nn Try.prog o a w K Q else E := by
  obtain ⟨i0, hi, hz0, hz1, hz2⟩ := info_parts Try.infoI64
  have hwd : Region.wanted o (yielded ops a.tmps) = true := by simp [Region.wanted, hgd]
  rw [if_pos hwd]
  obtain ⟨g, cap, w', hrun, h1, h2, h3, _⟩ := run_append_lies (P := Try.prog) w 52 o.type B 2 i0 _ 1 8 Try.underlying52 hi hz0 hz1 hz2 rfl (by decide) v l.length (i64s l).toList hown ⟨gx, 0, none⟩ 1 c [.int .i64 y] rfl (by
    intro j u hj
    rw [Addr.add_lit]
    match j, hj with
    | 0, hj => simp at hj; subst hj; exact h0
    | j + 1, hj => simp at hj) (by
    intro u hu
    simp at hu
    subst hu
    rfl) (by decide) (by unfold maxLen; omega) (by omega) hB _ rfl
  have h1' : OI w' B (.slice (some ⟨g, 0, none⟩) (l.length + 1) cap) (l ++ [y]) := by
    unfold OI
    rw [List.length_append]
    simpa [i64s] using h1
  unfold Oper.wpIn
  refine ⟨?_, ?_⟩
  · simp [Oper.about, ho, resolve, Target.leads, Sem.run_pure]
  · rw [Oper.semAt_plain F _ _ (by rw [ho]; intro c hc'; cases hc')]
    simp [execOp, ho, resolve, invoke, builtin, hs, hx, hrun, Result.andThen]
    exact h g cap w' h1' h2 h3

/-- A round's end: the answer of addSeg is put behind the kids, and the kids' box holds them. -/
theorem un_end {w w1 : World} {b0 A s g : Nat} {da : Option Addr} {dn dc : Nat} {ds : List Dc} {xs : List Sg} {n : Nat} {pre : List (Fin n)} {x : Fin n} {W w3 w4 : World} {ka : Option Addr} {kc gg cap i3 : Nat} {v3 : Value} {D3 : DataW Unit} {l l3 : List Tg}
    (hww : w.heap.size ≤ w1.heap.size) (h1A : w1.heap.size ≤ A) (hgA : g < A + 3) (hbA : b0 + 1 < w1.heap.size) (HU : UnS w1 b0 A s g (A + 3) da dn dc ds xs pre W)
    (hkb : Bz W (A + 1) #[Value.slice ka pre.length kc] 52) (hko : OI W (A + 3) (.slice ka pre.length kc) (kdS ds xs pre)) (hkl : ∀ y ∈ l, ∀ p, y.ka = some p → (Value.slice ka pre.length kc).ownBlock ≠ some p.block)
    (har3 : Ar w3 w1.heap.size s g v3 D3 l3) (hl3 : l3.map Tg.ct = (shAll (ndS ds xs (pre ++ [x]))).1) (hi3 : (shAll (ndS ds xs (pre ++ [x]))).2.getLast? = some (i3 : Int)) (hb3 : Below w1.heap.size w1 w3) (hk3 : KpT g W.drew w3) (hnw : ∀ y ∈ l3, y ∈ l ∨ ∀ p, y.ka = some p → W.heap.size ≤ p.block)
    (ho4 : OI w4 (A + 3) (.slice (some ⟨gg, 0, none⟩) (pre.length + 1) cap) (kdS ds xs pre ++ [(i3 : Int)])) (hg4 : (w3.alloc (Obj.cells #[Value.int .i64 (i3 : Int)] 2)).grownBy w4 (Value.slice ka pre.length kc).ownBlock) (hgg : (Value.slice ka pre.length kc).ownBlock = some gg ∨ gg = (w3.alloc (Obj.cells #[Value.int .i64 (i3 : Int)] 2)).heap.size) :
    KeepsFrom (A + 3) W (w4.setCell ⟨A + 1, 0, none⟩ (.slice (some ⟨gg, 0, none⟩) (pre.length + 1) cap)) ∧ KpB w.heap.size (A + 2) W (w4.setCell ⟨A + 1, 0, none⟩ (.slice (some ⟨gg, 0, none⟩) (pre.length + 1) cap)) ∧ UnS w1 b0 A s g (A + 3) da dn dc ds xs (pre ++ [x]) (w4.setCell ⟨A + 1, 0, none⟩ (.slice (some ⟨gg, 0, none⟩) (pre.length + 1) cap)) := by
  obtain ⟨w5, hw5⟩ : ∃ w5, w3.alloc (Obj.cells #[Value.int .i64 (i3 : Int)] 2) = w5 := ⟨_, rfl⟩
  have hb5 : Below w3.heap.size w3 w5 := by rw [← hw5]; exact (Below.refl _ _).alloc (Nat.le_refl _) _
  rw [hw5] at hg4 hgg
  have har5 := har3.later hb5
  have hsW := HU.sz
  have hs3 : W.heap.size ≤ w3.heap.size := hk3.2.2
  have hs5 := hb5.size
  -- the row's own block: numbers, new since the loop began
  have hob : ∀ b, (Value.slice ka pre.length kc).ownBlock = some b → A + 3 ≤ b ∧ b < W.heap.size ∧ ∃ cur, W.heap[b]? = some (.cells cur 2) := fun b hb => ⟨(hko.lt hb).1, (hko.lt hb).2, hko.typed9 hb⟩
  have c5 : ∀ (b : Nat) (cur : Array Value) (t : TypeId) (fz : Nat × Nat), t ≠ 72 → t ≠ 57 → W.heap[b]? = some (.cells cur t fz) → w5.heap[b]? = some (.cells cur t fz) := fun b cur t fz h1 h2 hb => (hb5.block b (by have := lt_of_block hb; omega)).trans ((hk3.1 b cur t fz h1 h2 hb).trans hb)
  -- what is no cell of numbers stays through the append
  have st4 : ∀ (b : Nat) (o : Obj), w5.heap[b]? = some o → (∀ cur, o ≠ .cells cur 2) → w4.heap[b]? = some o := fun b o hb hno => (hg4.block b (Array.getElem?_eq_some_iff.1 hb).1 (fun e => by
    obtain ⟨_, _, cur, hc⟩ := hob b e.symm
    have h9 := c5 b cur _ _ (by decide) (by decide) hc
    rw [hb] at h9
    exact hno cur (Option.some.inj h9))).trans hb
  have lo4 : ∀ b, b < A + 3 → b < w5.heap.size → w4.heap[b]? = w5.heap[b]? := fun b h1 h2 => hg4.block b h2 (fun e => by have := (hob b e.symm).1; omega)
  have hkb5 : w5.heap[A + 1]? = some (.cells #[Value.slice ka pre.length kc] 52) := c5 _ _ _ _ (by decide) (by decide) hkb
  have hkb4 : Bz w4 (A + 1) #[Value.slice ka pre.length kc] 52 := st4 _ _ hkb5 (fun cur e => by cases e)
  obtain ⟨nv, hnv⟩ : ∃ nv, Value.slice (some ⟨gg, 0, none⟩) (pre.length + 1) cap = nv := ⟨_, rfl⟩
  obtain ⟨W', hW'⟩ : ∃ W', w4.setCell ⟨A + 1, 0, none⟩ nv = W' := ⟨_, rfl⟩
  have ot : ∀ b, b ≠ A + 1 → W'.heap[b]? = w4.heap[b]? := fun b hb => by rw [← hW']; exact heap_setCell_other _ _ _ _ (fun e => by simp only [] at e; omega)
  have stW : ∀ (b : Nat) (o : Obj), w5.heap[b]? = some o → (∀ cur, o ≠ .cells cur 2) → (∀ cur, o ≠ .cells cur 52) → W'.heap[b]? = some o := fun b o hb h1 h2 => (ot b (fun e => by
    subst e
    rw [hkb5] at hb
    exact h2 _ (Option.some.inj hb).symm)).trans (st4 b o hb h1)
  have bzW : ∀ (b : Nat) (cs : Array Value) (t : TypeId), t ≠ 72 → t ≠ 57 → t ≠ 2 → t ≠ 52 → Bz W b cs t → Bz W' b cs t := fun b cs t h1 h2 h3 h4 hb => stW b _ (c5 b cs t _ h1 h2 hb) (fun cur e => by cases e; exact h3 rfl) (fun cur e => by cases e; exact h4 rfl)
  have kst : ∀ y ∈ l3, ∀ z, y.ka = some z → ∀ cur, w5.heap[z.block]? = some (.cells cur 2) → W'.heap[z.block]? = some (.cells cur 2) := fun y hy z hz cur hc => (ot _ (fun e => by
    rw [e, hkb5] at hc
    cases hc)).trans ((hg4.block _ (lt_of_block hc) (fun e => by
    rcases hnw y hy with h9 | h9
    · exact hkl y h9 z hz e.symm
    · have := (hob _ e.symm).2.1
      have := h9 z hz
      omega)).trans hc)
  have bw : Below w1.heap.size w1 W' := by
    rw [← hW']
    have q1 : Below w1.heap.size w1 w5 := hb3.trans (hb5.mono hb3.size)
    exact (q1.grown hg4 q1.size (fun k e => by have := (hob k e).1; omega)).setCell (by simp only []; omega) _
  have hsz4 : w5.heap.size ≤ W'.heap.size := by rw [← hW']; simpa using hg4.size
  have hbl := HU.bl.size
  have har9 : Ar W' w1.heap.size s g v3 D3 l3 := by
    refine ⟨⟨har5.ts.row.move fun b hb => ?_, fun y hy => (har5.ts.wn y hy).kept fun k cur' hc' => ?_, fun y hy => ?_, har5.ts.wd, har5.ts.kd⟩, ?_, own_belowN har5.mp fun hg => ?_, har5.ak, har5.le⟩
    · obtain ⟨c, hc⟩ := har5.ts.row.typed hb
      exact (stW _ _ hc (fun cur e => by cases e) (fun cur e => by cases e)).trans hc.symm
    · exact (stW _ _ hc' (fun cur e => by cases e) (fun cur e => by cases e)).trans hc'.symm
    · rcases har5.ts.kn y hy with ⟨k1, k2⟩ | ⟨g', cur', k1, k2, k3, k4⟩
      · refine .inl ⟨k1, fun z e => ?_⟩
        obtain ⟨q1, q2, cur', q3⟩ := k2 z e
        exact ⟨q1, q2, cur', kst y hy z e _ q3⟩
      · exact .inr ⟨g', cur', k1, k2, kst y hy _ k1 _ k3, k4⟩
    · exact stW _ _ har5.box (fun cur e => by cases e) (fun cur e => by cases e)
    · obtain ⟨es, ck, h9⟩ := own_isMapN har5.mp
      exact (stW _ _ h9 (fun cur e => by cases e) (fun cur e => by cases e)).trans h9.symm
  obtain ⟨sv, hxb⟩ := HU.xb
  have hxb9 := bzW _ _ _ (by decide) (by decide) (by decide) (by decide) hxb
  have hkbW : Bz W' (A + 1) #[nv] 52 := by
    have h9 := hkb4.set 0 nv
    rw [hW'] at h9
    exact h9
  rw [hnv] at ho4
  have hoW : OI W' (A + 3) nv (kdS ds xs (pre ++ [x])) := by
    rw [kdS_snoc ds xs pre x hi3]
    exact ho4.move fun b hb => ot b (fun e => by have := (ho4.lt hb).1; omega)
  have hlp : (pre ++ [x]).length = pre.length + 1 := by simp
  rw [hnv, hW']
  refine ⟨⟨by omega, fun k o hB hk ho => ?_⟩, ⟨⟨bw.os.trans HU.bl.os.symm, bw.tape.trans HU.bl.tape.symm, bw.output.trans HU.bl.output.symm, by omega, fun k hk => (bw.block k (by omega)).trans (HU.bl.block k (by omega)).symm⟩, hxb9.trans hxb.symm⟩, ⟨bzW _ _ _ (by decide) (by decide) (by decide) (by decide) HU.xd, bzW _ _ _ (by decide) (by decide) (by decide) (by decide) HU.xr, bzW _ _ _ (by decide) (by decide) (by decide) (by decide) HU.xa, ⟨sv, hxb9⟩, ⟨v3, D3, l3, some ⟨gg, 0, none⟩, cap, har9, hl3, by rw [hlp, hnv]; exact hkbW, by rw [hlp, hnv]; exact hoW, fun y hy p hp e => ?_⟩, bw, by omega⟩⟩
  · have h3 := hk3.2.1 k o ho (by omega) hk
    have h5 := (hb5.block k (Array.getElem?_eq_some_iff.1 h3).1).trans h3
    exact stW k o h5 (fun cur e => by subst e; cases ho) (fun cur e => by subst e; cases ho)
  · have e9 : gg = p.block := by simpa [Value.ownBlock] using e
    rcases hgg with h9 | h9
    · rcases hnw y hy with h8 | h8
      · exact hkl y h8 p hp (by rw [h9, e9])
      · have := (hob _ h9).2.1
        have := h8 p hp
        omega
    · have := (har5.ts.below y hy).2 p hp
      omega

end Go.Proofs.Ytljcfokiocbgoaa

/- What the program's FlatOk answers. -/
namespace Go.Proofs.Ytljcfokiocbgoaa
set_option linter.unusedVariables false
set_option linter.unusedSimpArgs false
open Go.RowKit

theorem implFlat_any (a da : Option Addr) (c dc n : Nat) (ds : List Dc) (xs : List Sg) (w : World) (hd : RdD w da ds) (hr : RdS w a xs) (hn : xs.length = n) :
    Calls Try.prog 19 #[.slice da ds.length dc, .slice a n c] w fun e w' => e = .returned (.bool (flatR ds (xs.map Sg.ct))) ∧ Below w.heap.size w w' := by
  have HDC := kide (implDecls_any da dc ds w hd)
  rw [flatR_form]
  cases hD : dclR ds with
  | false =>
    rw [hD] at HDC
    clear hD
    go_enter Try.func19, Try.ntmps19
    go_wp2_with fail
    refine Calls.mono HDC.out ?_
    rintro e w1 ⟨rfl, hb1⟩
    go_wp2_with fail
    go_ret
    exact ⟨rfl, hb1⟩
  | true =>
    rw [hD] at HDC
    have HF := kide (fun u (hu : Below w.heap.size w u) => formOk_any a da c dc n ds xs u (hd.later hu) (hr.later hu) hn hD)
    generalize formR ds (xs.map Sg.ct) = R at *
    clear hD hd hr hn
    go_enter Try.func19, Try.ntmps19
    go_wp2_with fail
    refine Calls.mono HDC.out ?_
    rintro e w1 ⟨rfl, hb1⟩
    have B1 := kide hb1
    clear hb1
    go_wp2_with fail
    refine Calls.mono (HF.out w1 B1.out) ?_
    rintro e w2 ⟨rfl, hb2⟩
    go_wp2_with fail
    go_ret
    exact ⟨ret_bool (by simp), B1.out.trans (hb2.mono B1.out.size)⟩

end Go.Proofs.Ytljcfokiocbgoaa
