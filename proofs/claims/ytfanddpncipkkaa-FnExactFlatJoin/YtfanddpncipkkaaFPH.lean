/- One round of gathering: what is put behind, what is rewritten in place. -/
import Derived.Test.YtfanddpncipkkaaFPC
import Derived.Test.YtfanddpncipkkaaRXI
import Derived.Handy
namespace Go.Proofs.Ytfanddpncipkkaa
set_option linter.unusedVariables false
set_option linter.unusedSimpArgs false
open Go.RowKit Go.Shelf
attribute [local go_sem] Oper.semAt_some

theorem rd_set {w : World} {a : Option Addr} {xs : List Nat} {β : Nat} {cs : Array Value} {t : TypeId} (h : Rd w a xs) (hb : Bz w β cs t) (hno : ∀ (j : Nat) (n : Int), cs[j]? ≠ some (.int .u64 n)) (i : Nat) (u : Value) : Rd (w.setCell ⟨β, i, none⟩ u) a xs := by
  obtain ⟨h1, h2, h3⟩ := h
  refine ⟨h1, h2, ?_⟩
  rcases h3 with h3 | ⟨b, o, rfl, hc⟩
  · exact .inl h3
  · refine .inr ⟨b, o, rfl, fun j hj => ?_⟩
    have h9 := hc j hj
    have hne : b ≠ β := fun e => by
      subst e
      rw [hb.cell (o + j)] at h9
      exact hno _ _ h9
    rw [World.cell?_of_block (a := ⟨b, o + j, none⟩) (heap_setCell_other _ _ _ _ (by simpa using hne))]
    exact h9
theorem no_u64 {v : Value} (h : ∀ n, v ≠ .int .u64 n) : ∀ (j : Nat) (n : Int), (#[v] : Array Value)[j]? ≠ some (.int .u64 n) := fun j n e => by
  match j, e with
  | 0, e => simp at e; exact h n e
  | j + 1, e => simp at e
theorem wpListIn_appS5 {l n : Nat} {w : World} {ops : Array Oper} {rest : List Oper} {o : Oper} {a : Act} {Q : Exit → Act → World → Prop} (hgd : o.guard = none) (s x : Operand)
    (ho : o.op = .call { callee := .builtin .append, args := #[s, x], argTypes := #[26, 26] })
    (B : Nat) (v : Value) (k : List Sg) (y : Sg) (hs : a.eval s = v) (hown : OS5 w B v k) (gx c : Nat) (hx : a.eval x = .slice (some ⟨gx, 0, none⟩) 1 c)
    (hb : Bz w gx #[.int .i64 y.ct.v, .int .i64 y.ct.lo, .int .i64 y.ct.wd, .int .i64 y.ct.bw, .slice y.a y.ct.ws.length y.c] 47) (hl : k.length ≤ 1048576) (hB : B ≤ w.heap.size)
    (h : ∀ g cap w', OS5 w' B (.slice (some ⟨g, 0, none⟩) (k.length + 1) cap) (k ++ [y]) → w.grownBy w' v.ownBlock → (v.ownBlock = some g ∨ g = w.heap.size) → wpListIn (Fence.wide.inRound l) n Try.prog ops Q rest (a.put o.dst (.slice (some ⟨g, 0, none⟩) (k.length + 1) cap)) w') : wpListIn (Fence.wide.inRound l) n Try.prog ops Q (o :: rest) a w := by
  obtain ⟨i0, hi, hz0, hz1, hz2⟩ := info_parts Try.infoSeg9
  obtain ⟨g, cap, w', hrun, h1, h2, h3, _⟩ := run_append_lies (P := Try.prog) w 26 o.type B 47 i0 _ 5 56 Try.underlying26 hi hz0 hz1 hz2 rfl (by decide) v k.length (sgc k) hown ⟨gx, 0, none⟩ 1 c (sgc [y]) rfl (by
    intro j u hj
    rw [Addr.add_lit]
    match j, hj with
    | 0, hj => simp [sgc] at hj; subst hj; exact hb.cell 0
    | 1, hj => simp [sgc] at hj; subst hj; exact hb.cell 1
    | 2, hj => simp [sgc] at hj; subst hj; exact hb.cell 2
    | 3, hj => simp [sgc] at hj; subst hj; exact hb.cell 3
    | 4, hj => simp [sgc] at hj; subst hj; exact hb.cell 4
    | j + 5, hj => simp [sgc] at hj) (by
    intro u hu
    simp [sgc] at hu
    rcases hu with rfl | rfl | rfl | rfl | rfl <;> rfl) (by decide) (by unfold maxLen; omega) (by omega) hB _ rfl
  have h1' : OS5 w' B (.slice (some ⟨g, 0, none⟩) (k.length + 1) cap) (k ++ [y]) := by
    unfold OS5
    rw [sgc_append, List.length_append]
    exact h1
  refine wpListIn_plain hgd fun K hK' => ?_
  unfold Oper.wpIn
  refine ⟨?_, ?_⟩
  · simp [Oper.about, ho, resolve, Target.leads, Sem.run_pure]
  · rw [Oper.semAt_plain (Fence.wide.inRound l) _ _ (by rw [ho]; intro c hc'; cases hc')]
    simp [execOp, ho, resolve, invoke, builtin, hs, hx, hrun, Result.andThen]
    exact hK' _ _ (h g cap w' h1' h2 h3)

/-- What is no cells lies as it lay. -/
def Nz (W W' : World) : Prop := W.heap.size ≤ W'.heap.size ∧ ∀ (k : Nat) (o : Obj), W.heap[k]? = some o → o.isCells = false → W'.heap[k]? = some o
theorem Nz.trans {A B C : World} (h : Nz A B) (k : Nz B C) : Nz A C := ⟨Nat.le_trans h.1 k.1, fun j o hj hc => k.2 j o (h.2 j o hj hc) hc⟩
theorem Nz.below {A B : World} (h : Below A.heap.size A B) : Nz A B := ⟨h.size, fun j o hj _ => (h.block j (Array.getElem?_eq_some_iff.1 hj).1).trans hj⟩
theorem Nz.set {W : World} {β i : Nat} {cs : Array Value} {t : TypeId} (hb : Bz W β cs t) (u : Value) : Nz W (W.setCell ⟨β, i, none⟩ u) := ⟨by simp, fun k o hk hc => by
  rw [heap_setCell_other _ _ _ _ (fun e => by
    simp only [] at e
    unfold Bz at hb
    rw [e, hb] at hk
    cases hk
    cases hc)]
  exact hk⟩
theorem Nz.grown {W W' : World} {row : Option Nat} (hg : W.grownBy W' row) (hr : ∀ r, row = some r → ∃ cur t, W.heap[r]? = some (.cells cur t (0, 0))) : Nz W W' := ⟨hg.size, fun k o hk hc => (hg.block k (Array.getElem?_eq_some_iff.1 hk).1 (fun e => by
  obtain ⟨cur, t, h9⟩ := hr k e.symm
  rw [hk] at h9
  cases h9
  cases hc)).trans hk⟩
theorem Nz.keeps {W W' : World} (h : Nz W W') (B : Nat) : KeepsFrom B W W' := ⟨h.1, fun k o _ hk hc => h.2 k o hk hc⟩

theorem bz_os5 {w w' : World} {b B : Nat} {v : Value} {l : List Sg} {cs : Array Value} {t : TypeId} (hb : Bz w b cs t) (h : OS5 w B v l) (ht : t ≠ 47) (hg : w.grownBy w' v.ownBlock) : Bz w' b cs t := by
  unfold Bz at hb ⊢
  rw [hg.block b (lt_of_block hb) (fun e => by
    obtain ⟨cur, hc⟩ := h.typed e.symm
    rw [hb] at hc
    cases hc
    exact ht rfl)]
  exact hb
theorem os5_set {w : World} {B b i : Nat} {v : Value} {l : List Sg} {cs : Array Value} {t : TypeId} (h : OS5 w B v l) (hb : Bz w b cs t) (ht : t ≠ 47) (u : Value) : OS5 (w.setCell ⟨b, i, none⟩ u) B v l := h.move fun k hk => by
  obtain ⟨cur, hc⟩ := h.typed hk
  exact heap_setCell_other _ _ _ _ (fun e => by
    simp only [] at e
    unfold Bz at hb
    rw [e, hb] at hc
    cases hc
    exact ht rfl)

/-- One segment more. -/
theorem Gi.app {w m w6 : World} {b N g6 c6 vc : Nat} {va : Option Addr} {L : List Sc} {pre : List Sg} {ow : Bool} {k : List Sg} {x : Sg} (h : Gi w b L pre ow (.slice va N vc) k m)
    (ho : OS5 w6 b (.slice (some ⟨g6, 0, none⟩) (N + 1) c6) (k ++ [x])) (hg : m.grownBy w6 (Value.slice va N vc).ownBlock) (hl : (Value.slice va N vc).ownBlock = some g6 ∨ g6 = m.heap.size)
    (hp : (pre ++ [x]).map Sg.ct <+: L) (hr : Rd m x.a x.ct.ws) (hn : x.a = none → x.c = 0) (hq : ∀ p, x.a = some p → (Value.slice va N vc).ownBlock ≠ some p.block ∧ p.block < m.heap.size) (hlo : 0 ≤ x.ct.lo ∧ x.ct.lo ≤ 4096) (hnf : Nf (k.map Sg.ct ++ [x.ct])) (hlen : k.length + 1 ≤ 2000) :
    Gi w b L (pre ++ [x]) false (.slice (some ⟨g6, 0, none⟩) (N + 1) c6) (k ++ [x]) ((w6.setCell ⟨b + 1 + 1, 0, none⟩ (.slice (some ⟨g6, 0, none⟩) (N + 1) c6)).setCell ⟨b + 1 + 1 + 1, 0, none⟩ (.bool false)) ∧ Nz m ((w6.setCell ⟨b + 1 + 1, 0, none⟩ (.slice (some ⟨g6, 0, none⟩) (N + 1) c6)).setCell ⟨b + 1 + 1 + 1, 0, none⟩ (.bool false)) ∧ Below b m ((w6.setCell ⟨b + 1 + 1, 0, none⟩ (.slice (some ⟨g6, 0, none⟩) (N + 1) c6)).setCell ⟨b + 1 + 1 + 1, 0, none⟩ (.bool false)) := by
  have q0 := bz_os5 h.r0 h.row (by decide) hg
  have q1 := bz_os5 h.r1 h.row (by decide) hg
  have q2 := bz_os5 h.fx h.row (by decide) hg
  have q3 := bz_os5 h.ox h.row (by decide) hg
  have q4 := q3.other (show b + 1 + 1 + 1 ≠ b + 1 + 1 by omega) 0 (.slice (some ⟨g6, 0, none⟩) (N + 1) c6)
  have hge : ∀ j, (Value.slice va N vc).ownBlock = some j → b ≤ j := fun j hj => (h.row.lt hj).1
  have hbm : b ≤ m.heap.size := by have := h.r0.lt; omega
  have hb6 : Below b m w6 := ⟨hg.os, hg.tape, hg.output, hg.size, fun j hj => hg.block j (by omega) (fun e => by have := hge j e.symm; omega)⟩
  have hb9 : Below b m ((w6.setCell ⟨b + 1 + 1, 0, none⟩ (.slice (some ⟨g6, 0, none⟩) (N + 1) c6)).setCell ⟨b + 1 + 1 + 1, 0, none⟩ (.bool false)) := (hb6.setCell (p := ⟨b + 1 + 1, 0, none⟩) (by simp only []; omega) _).setCell (p := ⟨b + 1 + 1 + 1, 0, none⟩) (by simp only []; omega) _
  have hrd : ∀ y : Sg, Rd m y.a y.ct.ws → (∀ p, y.a = some p → (Value.slice va N vc).ownBlock ≠ some p.block) → Rd ((w6.setCell ⟨b + 1 + 1, 0, none⟩ (.slice (some ⟨g6, 0, none⟩) (N + 1) c6)).setCell ⟨b + 1 + 1 + 1, 0, none⟩ (.bool false)) y.a y.ct.ws := fun y hy hne =>
    rd_set (rd_set (rd_gr hy hg hne) q2 (no_u64 (fun n e => by cases e)) 0 _) q4 (no_u64 (fun n e => by cases e)) 0 _
  refine ⟨⟨(q0.other (by omega) 0 _).other (by omega) 0 _, (q1.other (by omega) 0 _).other (by omega) 0 _, (q2.set 0 _).other (by omega) 0 _, q4.set 0 _, os5_set (os5_set ho q2 (by decide) _) q4 (by decide) _, by rw [List.map_append]; exact hnf, ?_, ?_, by simp; omega, ?_, ?_, ?_, fun e => by (cases e), ?_, hp, h.bel.trans hb9⟩, ?_, hb9⟩
  · rw [List.map_append, List.map_append, formP_app, formP_app, h.bits]
  · intro y hy
    rcases List.mem_append.1 hy with hy | hy
    · exact h.lo y hy
    · rw [List.mem_singleton.1 hy]; exact hlo
  · intro y hy
    rcases List.mem_append.1 hy with hy | hy
    · exact hrd y (h.rd y hy) (fun p hp => h.ra y hy p hp)
    · rw [List.mem_singleton.1 hy]; exact hrd x hr (fun p hp => (hq p hp).1)
  · intro y hy
    rcases List.mem_append.1 hy with hy | hy
    · exact h.no y hy
    · rw [List.mem_singleton.1 hy]; exact hn
  · intro y hy p hp
    have hs : m.heap.size ≤ ((w6.setCell ⟨b + 1 + 1, 0, none⟩ (.slice (some ⟨g6, 0, none⟩) (N + 1) c6)).setCell ⟨b + 1 + 1 + 1, 0, none⟩ (.bool false)).heap.size := by have := hg.size; simpa using this
    rcases List.mem_append.1 hy with hy | hy
    · exact Nat.lt_of_lt_of_le (h.pl y hy p hp) hs
    · rw [List.mem_singleton.1 hy] at hp; exact Nat.lt_of_lt_of_le (hq p hp).2 hs
  · intro y hy p hp e
    have hh : (Value.slice va N vc).ownBlock ≠ some p.block ∧ p.block < m.heap.size := by
      rcases List.mem_append.1 hy with hy | hy
      · exact ⟨h.ra y hy p hp, h.pl y hy p hp⟩
      · rw [List.mem_singleton.1 hy] at hp; exact hq p hp
    have e9 : g6 = p.block := Option.some.inj e
    rcases hl with h9 | h9
    · exact hh.1 (by rw [h9, e9])
    · omega
  · refine ((Nz.grown hg (fun r e => ?_)).trans (Nz.set q2 _)).trans (Nz.set q4 _)
    obtain ⟨cur, hc⟩ := h.row.typed e
    exact ⟨cur, _, hc⟩

theorem os5_last {w : World} {B g n c M : Nat} {k : List Sg} {y : Sg} (h : OS5 w B (.slice (some ⟨g, 0, none⟩) n c) (k ++ [y])) (hM : k.length = M) :
    w.cell? ⟨g, M * 5, none⟩ = some (.int .i64 y.ct.v) ∧ w.cell? ⟨g, M * 5 + 1, none⟩ = some (.int .i64 y.ct.lo) ∧ w.cell? ⟨g, M * 5 + 2, none⟩ = some (.int .i64 y.ct.wd) ∧ w.cell? ⟨g, M * 5 + 3, none⟩ = some (.int .i64 y.ct.bw) ∧ w.cell? ⟨g, M * 5 + 4, none⟩ = some (.slice y.a y.ct.ws.length y.c) := by
  have key : ∀ (j : Nat) (u : Value), (sgc [y])[j]? = some u → w.cell? ⟨g, M * 5 + j, none⟩ = some u := fun j u hj => by
    have hl : (sgc k).length = M * 5 := by rw [sgc_len, hM]
    have hc := World.ownsRow.cells h (g := g) rfl (M * 5 + j) u (by rw [sgc_append, List.getElem?_append_right (by omega), hl, Nat.add_sub_cancel_left]; exact hj)
    rw [Addr.add_lit] at hc
    simpa using hc
  exact ⟨key 0 _ rfl, key 1 _ rfl, key 2 _ rfl, key 3 _ rfl, key 4 _ rfl⟩

def put2 (w : World) (g o : Nat) (y : Sg) : World := (w.setCell ⟨g, o + 3, none⟩ (.int .i64 y.ct.bw)).setCell ⟨g, o + 4, none⟩ (.slice y.a y.ct.ws.length y.c)
def put5 (w : World) (g o : Nat) (y : Sg) : World := ((((w.setCell ⟨g, o, none⟩ (.int .i64 y.ct.v)).setCell ⟨g, o + 1, none⟩ (.int .i64 y.ct.lo)).setCell ⟨g, o + 2, none⟩ (.int .i64 y.ct.wd)).setCell ⟨g, o + 3, none⟩ (.int .i64 y.ct.bw)).setCell ⟨g, o + 4, none⟩ (.slice y.a y.ct.ws.length y.c)
theorem grown_same {a b c : World} {r : Option Nat} (h : a.grownBy b r) (k : b.grownBy c r) : a.grownBy c r := ⟨k.os.trans h.os, k.tape.trans h.tape, k.output.trans h.output, Nat.le_trans h.size k.size, fun j hj hn => (k.block j (Nat.lt_of_lt_of_le hj h.size) hn).trans (h.block j hj hn)⟩
theorem os5_put2 {w : World} {B g n c M : Nat} {k : List Sg} {y z : Sg} (h : OS5 w B (.slice (some ⟨g, 0, none⟩) n c) (k ++ [y])) (hM : k.length = M) (hz : z.ct = y.ct) : OS5 (put2 w g (M * 5) z) B (.slice (some ⟨g, 0, none⟩) n c) (k ++ [z]) ∧ w.grownBy (put2 w g (M * 5) z) (some g) := by
  obtain ⟨a, c', e⟩ := h.form
  cases e
  have s1 := World.ownsRow.stored h (M * 5 + 3) (.int .i64 z.ct.bw)
  have s2 := World.ownsRow.stored s1.1 (M * 5 + 4) (.slice z.a z.ct.ws.length z.c)
  refine ⟨?_, grown_same s1.2 s2.2⟩
  have hl : (sgc k).length = M * 5 := by rw [sgc_len, hM]
  have e : sgc (k ++ [z]) = ((sgc (k ++ [y])).set (M * 5 + 3) (.int .i64 z.ct.bw)).set (M * 5 + 4) (.slice z.a z.ct.ws.length z.c) := by
    rw [sgc_append, sgc_append]
    simp [sgc, List.set_append, hl, hz]
  have h9 := s2.1
  unfold OS5
  rw [e, show (k ++ [z]).length = (k ++ [y]).length by simp]
  exact h9
theorem os5_put5 {w : World} {B g n c M : Nat} {k : List Sg} {y : Sg} (z : Sg) (h : OS5 w B (.slice (some ⟨g, 0, none⟩) n c) (k ++ [y])) (hM : k.length = M) : OS5 (put5 w g (M * 5) z) B (.slice (some ⟨g, 0, none⟩) n c) (k ++ [z]) ∧ w.grownBy (put5 w g (M * 5) z) (some g) := by
  obtain ⟨a, c', e⟩ := h.form
  cases e
  have s1 := World.ownsRow.stored h (M * 5) (.int .i64 z.ct.v)
  have s2 := World.ownsRow.stored s1.1 (M * 5 + 1) (.int .i64 z.ct.lo)
  have s3 := World.ownsRow.stored s2.1 (M * 5 + 2) (.int .i64 z.ct.wd)
  have s4 := World.ownsRow.stored s3.1 (M * 5 + 3) (.int .i64 z.ct.bw)
  have s5 := World.ownsRow.stored s4.1 (M * 5 + 4) (.slice z.a z.ct.ws.length z.c)
  refine ⟨?_, grown_same s1.2 (grown_same s2.2 (grown_same s3.2 (grown_same s4.2 s5.2)))⟩
  have hl : (sgc k).length = M * 5 := by rw [sgc_len, hM]
  have e : sgc (k ++ [z]) = (((((sgc (k ++ [y])).set (M * 5) (.int .i64 z.ct.v)).set (M * 5 + 1) (.int .i64 z.ct.lo)).set (M * 5 + 2) (.int .i64 z.ct.wd)).set (M * 5 + 3) (.int .i64 z.ct.bw)).set (M * 5 + 4) (.slice z.a z.ct.ws.length z.c) := by
    rw [sgc_append, sgc_append]
    simp [sgc, List.set_append, hl]
  have h9 := s5.1
  unfold OS5
  rw [e, show (k ++ [z]).length = (k ++ [y]).length by simp]
  exact h9

/-- The last one's words copied: it is another one of the same contents. -/
theorem Gi.swap {w u u' : World} {b g n c : Nat} {L : List Sc} {pre : List Sg} {k : List Sg} {y z : Sg} (h : Gi w b L pre false (.slice (some ⟨g, 0, none⟩) n c) (k ++ [y]) u) (hg : u.grownBy u' (some g)) (ho : OS5 u' b (.slice (some ⟨g, 0, none⟩) n c) (k ++ [z])) (hz : z.ct = y.ct)
    (hr : Rd u z.a z.ct.ws) (hn : z.a = none → z.c = 0) (hq : ∀ p, z.a = some p → p.block < u.heap.size ∧ p.block ≠ g) : Gi w b L pre false (.slice (some ⟨g, 0, none⟩) n c) (k ++ [z]) u' ∧ Nz u u' ∧ Below b u u' := by
  have hgo : u.grownBy u' (Value.slice (some ⟨g, 0, none⟩) n c).ownBlock := hg
  have hbg : b ≤ g := (h.row.lt (b := g) rfl).1
  have hbu : b ≤ u.heap.size := by have := h.r0.lt; omega
  have hb : Below b u u' := ⟨hg.os, hg.tape, hg.output, hg.size, fun j hj => hg.block j (by omega) (fun e => by cases e; omega)⟩
  have hm : (k ++ [z]).map Sg.ct = (k ++ [y]).map Sg.ct := by simp [hz]
  refine ⟨⟨bz_os5 h.r0 h.row (by decide) hgo, bz_os5 h.r1 h.row (by decide) hgo, bz_os5 h.fx h.row (by decide) hgo, bz_os5 h.ox h.row (by decide) hgo, ho, by rw [hm]; exact h.nf, by rw [hm]; exact h.bits, ?_, by have := h.len; simpa using this, ?_, ?_, ?_, fun e => by (cases e), ?_, h.pre, h.bel.trans hb⟩, Nz.grown hg (fun r e => ?_), hb⟩
  · intro x hx
    rcases List.mem_append.1 hx with hx | hx
    · exact h.lo x (by simp [hx])
    · rw [List.mem_singleton.1 hx, hz]; exact h.lo y (by simp)
  · intro x hx
    rcases List.mem_append.1 hx with hx | hx
    · exact rd_gr (h.rd x (by simp [hx])) hgo (fun p hp => h.ra x (by simp [hx]) p hp)
    · rw [List.mem_singleton.1 hx]
      exact rd_gr hr hg (fun p hp e => (hq p hp).2 (Option.some.inj e).symm)
  · intro x hx
    rcases List.mem_append.1 hx with hx | hx
    · exact h.no x (by simp [hx])
    · rw [List.mem_singleton.1 hx]; exact hn
  · intro x hx p hp
    rcases List.mem_append.1 hx with hx | hx
    · exact Nat.lt_of_lt_of_le (h.pl x (by simp [hx]) p hp) hg.size
    · rw [List.mem_singleton.1 hx] at hp; exact Nat.lt_of_lt_of_le (hq p hp).1 hg.size
  · intro x hx p hp
    rcases List.mem_append.1 hx with hx | hx
    · exact h.ra x (by simp [hx]) p hp
    · rw [List.mem_singleton.1 hx] at hp
      exact fun e => (hq p hp).2 (Option.some.inj e).symm
  · obtain ⟨cur, hc⟩ := h.row.typed (b := g) rfl
    cases e
    exact ⟨cur, _, hc⟩

theorem okS.short {s : Sc} (h : okS s) : s.ws.length ≤ 64 := by
  rcases h.2.2.2 with ⟨-, -, -, h9⟩ | ⟨-, -, h9⟩
  · have := right_W h9
    omega
  · simp [h9]
theorem rd_oww {w : World} {B n c : Nat} {a : Option Addr} {ws : List Nat} (h : OwW w B (.slice a n c) ws) (hl : ws.length ≤ 1048576) (hx : ∀ y ∈ ws, y < 18446744073709551616) : Rd w a ws := by
  refine ⟨hl, hx, ?_⟩
  rcases h.2 with ⟨e, h0⟩ | ⟨g, cap, cur, e, -⟩
  · exact .inl (List.eq_nil_of_length_eq_zero h0)
  · cases e
    refine .inr ⟨g, 0, rfl, fun i hi => ?_⟩
    have h9 := World.ownsRow.cells h (g := g) rfl i (.int .u64 ((ws.getD i 0 : Nat) : Int)) (by simp [u64s, List.getD, hi])
    rw [Addr.add_lit] at h9
    exact h9
/-- The last one and the next made one, in place. -/
theorem Gi.merge {w u u1 : World} {b g n c M : Nat} {L : List Sc} {pre : List Sg} {ow : Bool} {k : List Sg} {x y z : Sg} (h : Gi w b L pre ow (.slice (some ⟨g, 0, none⟩) n c) (k ++ [y]) u) (hM : k.length = M)
    (hA : OwW u b (.slice y.a y.ct.ws.length y.c) y.ct.ws) (hd : ∀ t ∈ k, ∀ p q, y.a = some p → t.a = some q → p.block ≠ q.block)
    (hg : u.grownBy u1 (Value.slice y.a y.ct.ws.length y.c).ownBlock) (hz : z.ct = oneS y.ct x.ct) (hZ : OwW u1 b (.slice z.a z.ct.ws.length z.c) z.ct.ws)
    (hl : ∀ j, (Value.slice z.a z.ct.ws.length z.c).ownBlock = some j → (Value.slice y.a y.ct.ws.length y.c).ownBlock = some j ∨ u.heap.size ≤ j)
    (hx : okS x.ct) (ho : oneB y.ct x.ct = true) (hw : y.ct.wd + x.ct.wd ≤ 4096) (hp : (pre ++ [x]).map Sg.ct <+: L) :
    Gi w b L (pre ++ [x]) true (.slice (some ⟨g, 0, none⟩) n c) (k ++ [z]) ((put5 u1 g (M * 5) z).setCell ⟨b + 1 + 1 + 1, 0, none⟩ (.bool true)) ∧ Nz u ((put5 u1 g (M * 5) z).setCell ⟨b + 1 + 1 + 1, 0, none⟩ (.bool true)) ∧ Below b u ((put5 u1 g (M * 5) z).setCell ⟨b + 1 + 1 + 1, 0, none⟩ (.bool true)) := by
  have hyo : okS y.ct := h.nf.ok y.ct (by simp)
  have hzo : okS z.ct := by rw [hz]; exact oneS_ok hyo hx hw
  have hgt := h.row.typed (b := g) rfl
  have hgl := h.row.lt (b := g) rfl
  have hyg : (Value.slice y.a y.ct.ws.length y.c).ownBlock ≠ some g := fun e => by
    obtain ⟨cur, hc⟩ := hgt
    obtain ⟨⟨cur', hc'⟩, -⟩ := oww_typed hA e
    rw [hc] at hc'
    cases hc'
  have hy0 : ∀ j, (Value.slice y.a y.ct.ws.length y.c).ownBlock = some j → b ≤ j := fun j e => (oww_typed hA e).2
  have hr1 : OS5 u1 b (.slice (some ⟨g, 0, none⟩) n c) (k ++ [y]) := h.row.move fun j hj => by
    cases hj
    exact hg.block g hgl.2 (fun e => hyg e.symm)
  obtain ⟨hr2, hg2⟩ := os5_put5 z hr1 hM
  have q0 := bz_os5 (bz_oww h.r0 hA (by decide) hg) hr1 (by decide) hg2
  have q1 := bz_os5 (bz_oww h.r1 hA (by decide) hg) hr1 (by decide) hg2
  have q2 := bz_os5 (bz_oww h.fx hA (by decide) hg) hr1 (by decide) hg2
  have q3 := bz_os5 (bz_oww h.ox hA (by decide) hg) hr1 (by decide) hg2
  have hbu : b ≤ u.heap.size := by have := h.r0.lt; omega
  have b1 : Below b u u1 := ⟨hg.os, hg.tape, hg.output, hg.size, fun j hj => hg.block j (by omega) (fun e => by have := hy0 j e.symm; omega)⟩
  have b2 : Below b u1 (put5 u1 g (M * 5) z) := ⟨hg2.os, hg2.tape, hg2.output, hg2.size, fun j hj => hg2.block j (by have := hg.size; omega) (fun e => by cases e; omega)⟩
  have b3 : Below b u ((put5 u1 g (M * 5) z).setCell ⟨b + 1 + 1 + 1, 0, none⟩ (.bool true)) := (b1.trans b2).setCell (p := ⟨b + 1 + 1 + 1, 0, none⟩) (by simp only []; omega) _
  have hzg : ∀ p, z.a = some p → p.block ≠ g := fun p hp9 e => by
    rcases hl p.block (by rw [hp9]; rfl) with h9 | h9
    · rw [e] at h9; exact hyg h9
    · omega
  have hzr : Rd u1 z.a z.ct.ws := rd_oww hZ (by have := hzo.short; omega) hzo.2.2.1
  have hsz : u.heap.size ≤ ((put5 u1 g (M * 5) z).setCell ⟨b + 1 + 1 + 1, 0, none⟩ (.bool true)).heap.size := b3.size
  have hzt : ∀ t ∈ k, ∀ p q, z.a = some p → t.a = some q → p.block ≠ q.block := fun t ht p q hp9 hq9 e => by
    rcases hl p.block (by rw [hp9]; rfl) with h9 | h9
    · cases hya : y.a with
      | none => rw [hya] at h9; cases h9
      | some r =>
        rw [hya] at h9
        exact hd t ht r q hya hq9 (by rw [← e]; exact Option.some.inj h9)
    · have := h.pl t (by simp [ht]) q hq9
      omega
  have hZ2 : OwW (put5 u1 g (M * 5) z) b (.slice z.a z.ct.ws.length z.c) z.ct.ws := World.ownsRow.kept hZ hg2 (.inr fun e => by
    cases hza : z.a with
    | none => rw [hza] at e; cases e
    | some p => rw [hza] at e; exact hzg p hza (Option.some.inj e))
  refine ⟨⟨q0.other (by omega) 0 _, q1.other (by omega) 0 _, q2.other (by omega) 0 _, q3.set 0 _, os5_set hr2 q3 (by decide) _, ?_, ?_, ?_, by have := h.len; simpa using this, ?_, ?_, ?_, fun _ => ⟨k, z, rfl, oww_set hZ2 q3 (by decide) _, hzt⟩, ?_, hp, h.bel.trans b3⟩, ?_, b3⟩
  · have h9 := h.nf
    rw [List.map_append] at h9 ⊢
    rw [show [z].map Sg.ct = [oneS y.ct x.ct] by simp [hz]]
    exact Nf.last h9 (by rw [← hz]; exact hzo)
  · have h9 := h.bits
    rw [List.map_append] at h9 ⊢
    rw [show [z].map Sg.ct = [oneS y.ct x.ct] by simp [hz], formP_one hyo hx ho, List.map_append, formP_app (pre.map Sg.ct), ← h9]
    rfl
  · intro t ht
    rcases List.mem_append.1 ht with ht | ht
    · exact h.lo t (by simp [ht])
    · rw [List.mem_singleton.1 ht, hz]
      have h9 := h.lo y (by simp)
      unfold oneS
      split
      · simp
      · exact h9
  · intro t ht
    rcases List.mem_append.1 ht with ht | ht
    · have t1 : Rd u1 t.a t.ct.ws := rd_gr (h.rd t (by simp [ht])) hg (fun q hq9 e => by
        cases hya : y.a with
        | none => rw [hya] at e; cases e
        | some r => rw [hya] at e; exact hd t ht r q hya hq9 (Option.some.inj e))
      have t2 := rd_gr t1 hg2 (fun q hq9 e => h.ra t (by simp [ht]) q hq9 e)
      exact rd_set t2 q3 (no_u64 (fun n e => by cases e)) 0 _
    · rw [List.mem_singleton.1 ht]
      have t2 := rd_gr hzr hg2 (fun q hq9 e => hzg q hq9 (Option.some.inj e).symm)
      exact rd_set t2 q3 (no_u64 (fun n e => by cases e)) 0 _
  · intro t ht
    rcases List.mem_append.1 ht with ht | ht
    · exact h.no t (by simp [ht])
    · rw [List.mem_singleton.1 ht]
      intro e
      rcases hZ.2 with ⟨e9, -⟩ | ⟨g9, cap, cur, e9, -⟩
      · simp at e9
        exact e9.2.2
      · rw [e] at e9; simp at e9
  · intro t ht p hp9
    rcases List.mem_append.1 ht with ht | ht
    · exact Nat.lt_of_lt_of_le (h.pl t (by simp [ht]) p hp9) hsz
    · rw [List.mem_singleton.1 ht] at hp9
      have h9 := (World.ownsRow.lt hZ2 p.block (by rw [hp9]; rfl)).2
      simpa using h9
  · intro t ht p hp9
    rcases List.mem_append.1 ht with ht | ht
    · exact h.ra t (by simp [ht]) p hp9
    · rw [List.mem_singleton.1 ht] at hp9
      exact fun e => hzg p hp9 (Option.some.inj e).symm
  · refine ((Nz.grown hg (fun r e => ?_)).trans (Nz.grown hg2 (fun r e => ?_))).trans (Nz.set q3 _)
    · obtain ⟨⟨cur, hc⟩, -⟩ := oww_typed hA e
      exact ⟨cur, _, hc⟩
    · cases e
      obtain ⟨cur, hc⟩ := hr1.typed (b := g) rfl
      exact ⟨cur, _, hc⟩

theorem heap_put2 {w : World} {b g o : Nat} {cs : Array Value} {t : TypeId} {y : Sg} (h : Bz w b cs t) (e : b ≠ g) : Bz (put2 w g o y) b cs t := (h.other e _ _).other e _ _
theorem oww_form {w : World} {B : Nat} {v : Value} {l : List Nat} (h : OwW w B v l) : ∃ a c, v = .slice a l.length c := by
  rcases h.2 with ⟨e, h0⟩ | ⟨g, cap, cur, e, -⟩
  · exact ⟨none, 0, by rw [h0]; exact e⟩
  · exact ⟨_, _, e⟩
theorem os5_oww {w w' : World} {B B' : Nat} {v v' : Value} {l : List Sg} {xs : List Nat} (h : OS5 w B v l) (hA : OwW w B' v' xs) (hg : w.grownBy w' v'.ownBlock) : OS5 w' B v l := h.move fun j hj => hg.block j (h.lt hj).2 (fun e => by
  obtain ⟨cur, hc⟩ := h.typed hj
  obtain ⟨⟨cur', hc'⟩, -⟩ := oww_typed hA e.symm
  rw [hc] at hc'
  cases hc')

/-- Which blocks gathering calls its own. -/
def OG (b : Nat) (ow : Bool) (v : Value) (l : List Sg) : Nat → Prop := fun k => k = b + 1 + 1 ∨ k = b + 1 + 1 + 1 ∨ v.ownBlock = some k ∨ (ow = true ∧ ∃ l' x q, l = l' ++ [x] ∧ x.a = some q ∧ q.block = k)
theorem Gi.lt {w W : World} {b : Nat} {L : List Sc} {pre : List Sg} {ow : Bool} {v : Value} {l : List Sg} (h : Gi w b L pre ow v l W) : ∀ k, OG b ow v l k → k < W.heap.size := fun k hk => by
  rcases hk with rfl | rfl | hk | ⟨-, l', x, q, rfl, hq, rfl⟩
  · exact h.fx.lt
  · exact h.ox.lt
  · exact (h.row.lt hk).2
  · exact h.pl x (by simp) q hq
theorem Ko.grown {O : Nat → Prop} {W A B : World} {row : Option Nat} (h : Ko O W A) (hg : A.grownBy B row) (hr : ∀ r, row = some r → O r ∨ W.heap.size ≤ r) : Ko O W B := ⟨Nat.le_trans h.1 hg.size, fun k o hk hc hn => by
  have h9 := h.2 k o hk hc hn
  rw [hg.block k (Array.getElem?_eq_some_iff.1 h9).1 (fun e => by
    rcases hr k e.symm with h8 | h8
    · exact hn h8
    · have := (Array.getElem?_eq_some_iff.1 hk).1; omega)]
  exact h9⟩
theorem Ko.set {O : Nat → Prop} {W A : World} (h : Ko O W A) {β i : Nat} (hb : O β) (u : Value) : Ko O W (A.setCell ⟨β, i, none⟩ u) := ⟨by have := h.1; simpa using this, fun k o hk hc hn => by
  rw [heap_setCell_other _ _ _ _ (fun e => hn (by simp only [] at e; rw [e]; exact hb))]
  exact h.2 k o hk hc hn⟩
theorem Ko.below {O : Nat → Prop} {W A B : World} (h : Ko O W A) (hb : Below A.heap.size A B) : Ko O W B := h.trans ((Cz.below hb).ko O)
theorem Ko.refl (O : Nat → Prop) (W : World) : Ko O W W := (Cz.refl W).ko O

theorem app_ko {W m w6 : World} {b N g6 c6 vc : Nat} {va : Option Addr} {ow : Bool} {k : List Sg} {x : Sg} (h : Ko (OG b ow (.slice va N vc) k) W m) (hg : m.grownBy w6 (Value.slice va N vc).ownBlock) (hl : (Value.slice va N vc).ownBlock = some g6 ∨ g6 = m.heap.size) :
    Ko (OG b ow (.slice va N vc) k) W ((w6.setCell ⟨b + 1 + 1, 0, none⟩ (.slice (some ⟨g6, 0, none⟩) (N + 1) c6)).setCell ⟨b + 1 + 1 + 1, 0, none⟩ (.bool false)) ∧ ∀ r, OG b false (.slice (some ⟨g6, 0, none⟩) (N + 1) c6) (k ++ [x]) r → OG b ow (.slice va N vc) k r ∨ W.heap.size ≤ r := by
  refine ⟨((h.grown hg (fun r hr => .inl (.inr (.inr (.inl hr))))).set (.inl rfl) _).set (.inr (.inl rfl)) _, fun r hr => ?_⟩
  rcases hr with hr | hr | hr | ⟨hr, -⟩
  · exact .inl (.inl hr)
  · exact .inl (.inr (.inl hr))
  · have e : g6 = r := Option.some.inj hr
    subst e
    rcases hl with hl | hl
    · exact .inl (.inr (.inr (.inl hl)))
    · exact .inr (by have := h.1; omega)
  · cases hr

theorem merge_ko {W u u1 : World} {b g n c M : Nat} {O : Nat → Prop} {k : List Sg} {y z : Sg} (h : Ko O W u) (h2 : O (b + 1 + 1)) (h3 : O (b + 1 + 1 + 1)) (hOg : O g) (hy : ∀ r, (Value.slice y.a y.ct.ws.length y.c).ownBlock = some r → O r ∨ W.heap.size ≤ r)
    (hr : OS5 u1 b (.slice (some ⟨g, 0, none⟩) n c) (k ++ [y])) (hM : k.length = M)
    (hg : u.grownBy u1 (Value.slice y.a y.ct.ws.length y.c).ownBlock) (hl : ∀ j, (Value.slice z.a z.ct.ws.length z.c).ownBlock = some j → (Value.slice y.a y.ct.ws.length y.c).ownBlock = some j ∨ u.heap.size ≤ j) :
    Ko O W ((put5 u1 g (M * 5) z).setCell ⟨b + 1 + 1 + 1, 0, none⟩ (.bool true)) ∧ ∀ r, OG b true (.slice (some ⟨g, 0, none⟩) n c) (k ++ [z]) r → O r ∨ W.heap.size ≤ r := by
  refine ⟨((h.grown hg hy).grown (os5_put5 z hr hM).2 (fun r hr => .inl (by cases hr; exact hOg))).set h3 _, fun r hr => ?_⟩
  rcases hr with hr | hr | hr | ⟨-, l', x, q, he, hq, rfl⟩
  · exact .inl (by rw [hr]; exact h2)
  · exact .inl (by rw [hr]; exact h3)
  · have e : g = r := Option.some.inj hr
    exact .inl (by rw [← e]; exact hOg)
  · obtain ⟨-, e2⟩ := List.append_inj' he rfl
    cases e2
    rcases hl q.block (by rw [hq]; rfl) with h9 | h9
    · exact hy _ h9
    · exact .inr (Nat.le_trans h.1 h9)

end Go.Proofs.Ytfanddpncipkkaa
