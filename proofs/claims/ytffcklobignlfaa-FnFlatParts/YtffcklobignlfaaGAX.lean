/- Several texts in one. -/
import Derived.Test.YtffcklobignlfaaGAO
import Derived.Test.YtffcklobignlfaaRXI
import Derived.Handy
import Derived.Test.YtffcklobignlfaaGAE
namespace Go.Proofs.Ytffcklobignlfaa
set_option linter.unusedVariables false
set_option linter.unusedSimpArgs false
open Go.RowKit Go.Shelf
attribute [local go_sem] Oper.semAt_some
theorem rd_set {w : World} {a : Option Addr} {xs : List Nat} {β : Nat} {cs : Array Value} {t : TypeId} (h : Rd w a xs) (hb : Bz w β cs t) (hno : ∀ (j : Nat) (n : Int), cs[j]? ≠ some (.int .u64 n)) (i : Nat) (u : Value) : Rd (w.setCell ⟨β, i, none⟩ u) a xs := by
 obtain ⟨h1, h2, h3⟩ := h
 refine ⟨h1, h2, ?_⟩
 rcases h3 with h3 | ⟨b, o, rfl, hc⟩
 ·exact .inl h3
 ·refine .inr ⟨b, o, rfl, fun j hj => ?_⟩
  have h9 := hc j hj
  have hne : b ≠ β := fun e => by
   subst e
   rw [hb.cell (o + j)] at h9
   exact hno _ _ h9
  rw [World.cell?_of_block (a := ⟨b, o + j, none⟩) (heap_setCell_other _ _ _ _ (by simpa using hne))]
  exact h9
theorem no_u64 {v : Value} (h : ∀ n, v ≠ .int .u64 n) : ∀ (j : Nat) (n : Int), (#[v] : Array Value)[j]? ≠ some (.int .u64 n) := fun j n e => by
 match j, e with
 | 0, e => simp at e; exact h n e
 | j + 1, e => simp at e
theorem wpListIn_appS5 {l n : Nat} {w : World} {ops : Array Oper} {rest : List Oper} {o : Oper} {a : Act} {Q : Exit → Act → World → Prop} (hgd : o.guard = none) (s x : Operand)
  (ho : o.op = .call { callee := .builtin .append, args := #[s, x], argTypes := #[25, 25] })
  (B : Nat) (v : Value) (k : List Sg) (y : Sg) (hs : a.eval s = v) (hown : OS5 w B v k) (gx c : Nat) (hx : a.eval x = .slice (some ⟨gx, 0, none⟩) 1 c)
  (hb : Bz w gx #[.int .i64 y.ct.v, .int .i64 y.ct.lo, .int .i64 y.ct.wd, .int .i64 y.ct.bw, .slice y.a y.ct.ws.length y.c] 34) (hl : k.length ≤ 1048576) (hB : B ≤ w.heap.size)
  (h : ∀ g cap w', OS5 w' B (.slice (some ⟨g, 0, none⟩) (k.length + 1) cap) (k ++ [y]) → w.grownBy w' v.ownBlock → (v.ownBlock = some g ∨ g = w.heap.size) → wpListIn (Fence.wide.inRound l) n Try.prog ops Q rest (a.put o.dst (.slice (some ⟨g, 0, none⟩) (k.length + 1) cap)) w') : wpListIn (Fence.wide.inRound l) n Try.prog ops Q (o :: rest) a w := by
 obtain ⟨i0, hi, hz0, hz1, hz2⟩ := info_parts Try.infoSeg9
 obtain ⟨g, cap, w', hrun, h1, h2, h3, _⟩ := run_append_lies (P := Try.prog) w 25 o.type B 34 i0 _ 5 56 Try.underlying25 hi hz0 hz1 hz2 rfl (by decide) v k.length (sgc k) hown ⟨gx, 0, none⟩ 1 c (sgc [y]) rfl (by
  intro j u hj
  rw [Addr.add_lit]
  match j, hj with
  | 0, hj => simp [sgc] at hj; subst hj; exact hb.cell 0
  | 1, hj => simp [sgc] at hj; subst hj; exact hb.cell 1
  | 2, hj => simp [sgc] at hj; subst hj; exact hb.cell 2
  | 3, hj => simp [sgc] at hj; subst hj; exact hb.cell 3
  | 4, hj => simp [sgc] at hj; subst hj; exact hb.cell 4
  | j + 5, hj => simp [sgc] at hj) (by
  intro u hu
  simp [sgc] at hu
  rcases hu with rfl | rfl | rfl | rfl | rfl <;> rfl) (by decide) (by unfold maxLen; omega) (by omega) hB _ rfl
 have h1' : OS5 w' B (.slice (some ⟨g, 0, none⟩) (k.length + 1) cap) (k ++ [y]) := by
  unfold OS5
  rw [sgc_append, List.length_append]
  exact h1
 refine wpListIn_plain hgd fun K hK' => ?_
 unfold Oper.wpIn
 refine ⟨?_, ?_⟩
 ·simp [Oper.about, ho, resolve, Target.leads, Sem.run_pure]
 ·rw [Oper.semAt_plain (Fence.wide.inRound l) _ _ (by rw [ho]; intro c hc'; cases hc')]
  simp [execOp, ho, resolve, invoke, builtin, hs, hx, hrun, Result.andThen]
  exact hK' _ _ (h g cap w' h1' h2 h3)
def Nz (W W' : World) : Prop := W.heap.size ≤ W'.heap.size ∧ ∀ (k : Nat) (o : Obj), W.heap[k]? = some o → o.isCells = false → W'.heap[k]? = some o
theorem Nz.trans {A B C : World} (h : Nz A B) (k : Nz B C) : Nz A C := ⟨Nat.le_trans h.1 k.1, fun j o hj hc => k.2 j o (h.2 j o hj hc) hc⟩
theorem Nz.below {A B : World} (h : Below A.heap.size A B) : Nz A B := ⟨h.size, fun j o hj _ => (h.block j (Array.getElem?_eq_some_iff.1 hj).1).trans hj⟩
theorem Nz.set {W : World} {β i : Nat} {cs : Array Value} {t : TypeId} (hb : Bz W β cs t) (u : Value) : Nz W (W.setCell ⟨β, i, none⟩ u) := ⟨by simp, fun k o hk hc => by
 rw [heap_setCell_other _ _ _ _ (fun e => by
  simp only [] at e
  unfold Bz at hb
  rw [e, hb] at hk
  cases hk
  cases hc)]
 exact hk⟩
theorem Nz.grown {W W' : World} {row : Option Nat} (hg : W.grownBy W' row) (hr : ∀ r, row = some r → ∃ cur t, W.heap[r]? = some (.cells cur t (0, 0))) : Nz W W' := ⟨hg.size, fun k o hk hc => (hg.block k (Array.getElem?_eq_some_iff.1 hk).1 (fun e => by
 obtain ⟨cur, t, h9⟩ := hr k e.symm
 rw [hk] at h9
 cases h9
 cases hc)).trans hk⟩
theorem Nz.keeps {W W' : World} (h : Nz W W') (B : Nat) : KeepsFrom B W W' := ⟨h.1, fun k o _ hk hc => h.2 k o hk hc⟩
theorem bz_os5 {w w' : World} {b B : Nat} {v : Value} {l : List Sg} {cs : Array Value} {t : TypeId} (hb : Bz w b cs t) (h : OS5 w B v l) (ht : t ≠ 34) (hg : w.grownBy w' v.ownBlock) : Bz w' b cs t := by
 unfold Bz at hb ⊢
 rw [hg.block b (lt_of_block hb) (fun e => by
  obtain ⟨cur, hc⟩ := h.typed e.symm
  rw [hb] at hc
  cases hc
  exact ht rfl)]
 exact hb
theorem os5_set {w : World} {B b i : Nat} {v : Value} {l : List Sg} {cs : Array Value} {t : TypeId} (h : OS5 w B v l) (hb : Bz w b cs t) (ht : t ≠ 34) (u : Value) : OS5 (w.setCell ⟨b, i, none⟩ u) B v l := h.move fun k hk => by
 obtain ⟨cur, hc⟩ := h.typed hk
 exact heap_setCell_other _ _ _ _ (fun e => by
  simp only [] at e
  unfold Bz at hb
  rw [e, hb] at hc
  cases hc
  exact ht rfl)
theorem Gi.app {w m w6 : World} {b N g6 c6 vc : Nat} {va : Option Addr} {L : List Sc} {pre : List Sg} {ow : Bool} {k : List Sg} {x : Sg} (h : Gi w b L pre ow (.slice va N vc) k m)
  (ho : OS5 w6 b (.slice (some ⟨g6, 0, none⟩) (N + 1) c6) (k ++ [x])) (hg : m.grownBy w6 (Value.slice va N vc).ownBlock) (hl : (Value.slice va N vc).ownBlock = some g6 ∨ g6 = m.heap.size)
  (hp : (pre ++ [x]).map Sg.ct <+: L) (hr : Rd m x.a x.ct.ws) (hn : x.a = none → x.c = 0) (hq : ∀ p, x.a = some p → (Value.slice va N vc).ownBlock ≠ some p.block ∧ p.block < m.heap.size) (hlo : 0 ≤ x.ct.lo ∧ x.ct.lo ≤ 4096) (hnf : Nf (k.map Sg.ct ++ [x.ct])) (hlen : k.length + 1 ≤ 2000) :
  Gi w b L (pre ++ [x]) false (.slice (some ⟨g6, 0, none⟩) (N + 1) c6) (k ++ [x]) ((w6.setCell ⟨b + 1 + 1, 0, none⟩ (.slice (some ⟨g6, 0, none⟩) (N + 1) c6)).setCell ⟨b + 1 + 1 + 1, 0, none⟩ (.bool false)) ∧ Nz m ((w6.setCell ⟨b + 1 + 1, 0, none⟩ (.slice (some ⟨g6, 0, none⟩) (N + 1) c6)).setCell ⟨b + 1 + 1 + 1, 0, none⟩ (.bool false)) ∧ Below b m ((w6.setCell ⟨b + 1 + 1, 0, none⟩ (.slice (some ⟨g6, 0, none⟩) (N + 1) c6)).setCell ⟨b + 1 + 1 + 1, 0, none⟩ (.bool false)) := by
 have q0 := bz_os5 h.r0 h.row (by decide) hg
 have q1 := bz_os5 h.r1 h.row (by decide) hg
 have q2 := bz_os5 h.fx h.row (by decide) hg
 have q3 := bz_os5 h.ox h.row (by decide) hg
 have q4 := q3.other (show b + 1 + 1 + 1 ≠ b + 1 + 1 by omega) 0 (.slice (some ⟨g6, 0, none⟩) (N + 1) c6)
 have hge : ∀ j, (Value.slice va N vc).ownBlock = some j → b ≤ j := fun j hj => (h.row.lt hj).1
 have hbm : b ≤ m.heap.size := by have := h.r0.lt; omega
 have hb6 : Below b m w6 := ⟨hg.os, hg.tape, hg.output, hg.size, fun j hj => hg.block j (by omega) (fun e => by have := hge j e.symm; omega)⟩
 have hb9 : Below b m ((w6.setCell ⟨b + 1 + 1, 0, none⟩ (.slice (some ⟨g6, 0, none⟩) (N + 1) c6)).setCell ⟨b + 1 + 1 + 1, 0, none⟩ (.bool false)) := (hb6.setCell (p := ⟨b + 1 + 1, 0, none⟩) (by simp only []; omega) _).setCell (p := ⟨b + 1 + 1 + 1, 0, none⟩) (by simp only []; omega) _
 have hrd : ∀ y : Sg, Rd m y.a y.ct.ws → (∀ p, y.a = some p → (Value.slice va N vc).ownBlock ≠ some p.block) → Rd ((w6.setCell ⟨b + 1 + 1, 0, none⟩ (.slice (some ⟨g6, 0, none⟩) (N + 1) c6)).setCell ⟨b + 1 + 1 + 1, 0, none⟩ (.bool false)) y.a y.ct.ws := fun y hy hne =>
  rd_set (rd_set (rd_gr hy hg hne) q2 (no_u64 (fun n e => by cases e)) 0 _) q4 (no_u64 (fun n e => by cases e)) 0 _
 refine ⟨⟨(q0.other (by omega) 0 _).other (by omega) 0 _, (q1.other (by omega) 0 _).other (by omega) 0 _, (q2.set 0 _).other (by omega) 0 _, q4.set 0 _, os5_set (os5_set ho q2 (by decide) _) q4 (by decide) _, by rw [List.map_append]; exact hnf, ?_, ?_, by simp; omega, ?_, ?_, ?_, fun e => by (cases e), ?_, hp, h.bel.trans hb9⟩, ?_, hb9⟩
 ·rw [List.map_append, List.map_append, formP_app, formP_app, h.bits]
 ·intro y hy
  rcases List.mem_append.1 hy with hy | hy
  ·exact h.lo y hy
  ·rw [List.mem_singleton.1 hy]; exact hlo
 ·intro y hy
  rcases List.mem_append.1 hy with hy | hy
  ·exact hrd y (h.rd y hy) (fun p hp => h.ra y hy p hp)
  ·rw [List.mem_singleton.1 hy]; exact hrd x hr (fun p hp => (hq p hp).1)
 ·intro y hy
  rcases List.mem_append.1 hy with hy | hy
  ·exact h.no y hy
  ·rw [List.mem_singleton.1 hy]; exact hn
 ·intro y hy p hp
  have hs : m.heap.size ≤ ((w6.setCell ⟨b + 1 + 1, 0, none⟩ (.slice (some ⟨g6, 0, none⟩) (N + 1) c6)).setCell ⟨b + 1 + 1 + 1, 0, none⟩ (.bool false)).heap.size := by have := hg.size; simpa using this
  rcases List.mem_append.1 hy with hy | hy
  ·exact Nat.lt_of_lt_of_le (h.pl y hy p hp) hs
  ·rw [List.mem_singleton.1 hy] at hp; exact Nat.lt_of_lt_of_le (hq p hp).2 hs
 ·intro y hy p hp e
  have hh : (Value.slice va N vc).ownBlock ≠ some p.block ∧ p.block < m.heap.size := by
   rcases List.mem_append.1 hy with hy | hy
   ·exact ⟨h.ra y hy p hp, h.pl y hy p hp⟩
   ·rw [List.mem_singleton.1 hy] at hp; exact hq p hp
  have e9 : g6 = p.block := Option.some.inj e
  rcases hl with h9 | h9
  ·exact hh.1 (by rw [h9, e9])
  ·omega
 ·refine ((Nz.grown hg (fun r e => ?_)).trans (Nz.set q2 _)).trans (Nz.set q4 _)
  obtain ⟨cur, hc⟩ := h.row.typed e
  exact ⟨cur, _, hc⟩
theorem os5_last {w : World} {B g n c M : Nat} {k : List Sg} {y : Sg} (h : OS5 w B (.slice (some ⟨g, 0, none⟩) n c) (k ++ [y])) (hM : k.length = M) :
  w.cell? ⟨g, M * 5, none⟩ = some (.int .i64 y.ct.v) ∧ w.cell? ⟨g, M * 5 + 1, none⟩ = some (.int .i64 y.ct.lo) ∧ w.cell? ⟨g, M * 5 + 2, none⟩ = some (.int .i64 y.ct.wd) ∧ w.cell? ⟨g, M * 5 + 3, none⟩ = some (.int .i64 y.ct.bw) ∧ w.cell? ⟨g, M * 5 + 4, none⟩ = some (.slice y.a y.ct.ws.length y.c) := by
 have key : ∀ (j : Nat) (u : Value), (sgc [y])[j]? = some u → w.cell? ⟨g, M * 5 + j, none⟩ = some u := fun j u hj => by
  have hl : (sgc k).length = M * 5 := by rw [sgc_len, hM]
  have hc := World.ownsRow.cells h (g := g) rfl (M * 5 + j) u (by rw [sgc_append, List.getElem?_append_right (by omega), hl, Nat.add_sub_cancel_left]; exact hj)
  rw [Addr.add_lit] at hc
  simpa using hc
 exact ⟨key 0 _ rfl, key 1 _ rfl, key 2 _ rfl, key 3 _ rfl, key 4 _ rfl⟩
def put2 (w : World) (g o : Nat) (y : Sg) : World := (w.setCell ⟨g, o + 3, none⟩ (.int .i64 y.ct.bw)).setCell ⟨g, o + 4, none⟩ (.slice y.a y.ct.ws.length y.c)
def put5 (w : World) (g o : Nat) (y : Sg) : World := ((((w.setCell ⟨g, o, none⟩ (.int .i64 y.ct.v)).setCell ⟨g, o + 1, none⟩ (.int .i64 y.ct.lo)).setCell ⟨g, o + 2, none⟩ (.int .i64 y.ct.wd)).setCell ⟨g, o + 3, none⟩ (.int .i64 y.ct.bw)).setCell ⟨g, o + 4, none⟩ (.slice y.a y.ct.ws.length y.c)
theorem grown_same {a b c : World} {r : Option Nat} (h : a.grownBy b r) (k : b.grownBy c r) : a.grownBy c r := ⟨k.os.trans h.os, k.tape.trans h.tape, k.output.trans h.output, Nat.le_trans h.size k.size, fun j hj hn => (k.block j (Nat.lt_of_lt_of_le hj h.size) hn).trans (h.block j hj hn)⟩
theorem os5_put2 {w : World} {B g n c M : Nat} {k : List Sg} {y z : Sg} (h : OS5 w B (.slice (some ⟨g, 0, none⟩) n c) (k ++ [y])) (hM : k.length = M) (hz : z.ct = y.ct) : OS5 (put2 w g (M * 5) z) B (.slice (some ⟨g, 0, none⟩) n c) (k ++ [z]) ∧ w.grownBy (put2 w g (M * 5) z) (some g) := by
 obtain ⟨a, c', e⟩ := h.form
 cases e
 have s1 := World.ownsRow.stored h (M * 5 + 3) (.int .i64 z.ct.bw)
 have s2 := World.ownsRow.stored s1.1 (M * 5 + 4) (.slice z.a z.ct.ws.length z.c)
 refine ⟨?_, grown_same s1.2 s2.2⟩
 have hl : (sgc k).length = M * 5 := by rw [sgc_len, hM]
 have e : sgc (k ++ [z]) = ((sgc (k ++ [y])).set (M * 5 + 3) (.int .i64 z.ct.bw)).set (M * 5 + 4) (.slice z.a z.ct.ws.length z.c) := by
  rw [sgc_append, sgc_append]
  simp [sgc, List.set_append, hl, hz]
 have h9 := s2.1
 unfold OS5
 rw [e, show (k ++ [z]).length = (k ++ [y]).length by simp]
 exact h9
theorem os5_put5 {w : World} {B g n c M : Nat} {k : List Sg} {y : Sg} (z : Sg) (h : OS5 w B (.slice (some ⟨g, 0, none⟩) n c) (k ++ [y])) (hM : k.length = M) : OS5 (put5 w g (M * 5) z) B (.slice (some ⟨g, 0, none⟩) n c) (k ++ [z]) ∧ w.grownBy (put5 w g (M * 5) z) (some g) := by
 obtain ⟨a, c', e⟩ := h.form
 cases e
 have s1 := World.ownsRow.stored h (M * 5) (.int .i64 z.ct.v)
 have s2 := World.ownsRow.stored s1.1 (M * 5 + 1) (.int .i64 z.ct.lo)
 have s3 := World.ownsRow.stored s2.1 (M * 5 + 2) (.int .i64 z.ct.wd)
 have s4 := World.ownsRow.stored s3.1 (M * 5 + 3) (.int .i64 z.ct.bw)
 have s5 := World.ownsRow.stored s4.1 (M * 5 + 4) (.slice z.a z.ct.ws.length z.c)
 refine ⟨?_, grown_same s1.2 (grown_same s2.2 (grown_same s3.2 (grown_same s4.2 s5.2)))⟩
 have hl : (sgc k).length = M * 5 := by rw [sgc_len, hM]
 have e : sgc (k ++ [z]) = (((((sgc (k ++ [y])).set (M * 5) (.int .i64 z.ct.v)).set (M * 5 + 1) (.int .i64 z.ct.lo)).set (M * 5 + 2) (.int .i64 z.ct.wd)).set (M * 5 + 3) (.int .i64 z.ct.bw)).set (M * 5 + 4) (.slice z.a z.ct.ws.length z.c) := by
  rw [sgc_append, sgc_append]
  simp [sgc, List.set_append, hl]
 have h9 := s5.1
 unfold OS5
 rw [e, show (k ++ [z]).length = (k ++ [y]).length by simp]
 exact h9
theorem Gi.swap {w u u' : World} {b g n c : Nat} {L : List Sc} {pre : List Sg} {k : List Sg} {y z : Sg} (h : Gi w b L pre false (.slice (some ⟨g, 0, none⟩) n c) (k ++ [y]) u) (hg : u.grownBy u' (some g)) (ho : OS5 u' b (.slice (some ⟨g, 0, none⟩) n c) (k ++ [z])) (hz : z.ct = y.ct)
  (hr : Rd u z.a z.ct.ws) (hn : z.a = none → z.c = 0) (hq : ∀ p, z.a = some p → p.block < u.heap.size ∧ p.block ≠ g) : Gi w b L pre false (.slice (some ⟨g, 0, none⟩) n c) (k ++ [z]) u' ∧ Nz u u' ∧ Below b u u' := by
 have hgo : u.grownBy u' (Value.slice (some ⟨g, 0, none⟩) n c).ownBlock := hg
 have hbg : b ≤ g := (h.row.lt (b := g) rfl).1
 have hbu : b ≤ u.heap.size := by have := h.r0.lt; omega
 have hb : Below b u u' := ⟨hg.os, hg.tape, hg.output, hg.size, fun j hj => hg.block j (by omega) (fun e => by cases e; omega)⟩
 have hm : (k ++ [z]).map Sg.ct = (k ++ [y]).map Sg.ct := by simp [hz]
 refine ⟨⟨bz_os5 h.r0 h.row (by decide) hgo, bz_os5 h.r1 h.row (by decide) hgo, bz_os5 h.fx h.row (by decide) hgo, bz_os5 h.ox h.row (by decide) hgo, ho, by rw [hm]; exact h.nf, by rw [hm]; exact h.bits, ?_, by have := h.len; simpa using this, ?_, ?_, ?_, fun e => by (cases e), ?_, h.pre, h.bel.trans hb⟩, Nz.grown hg (fun r e => ?_), hb⟩
 ·intro x hx
  rcases List.mem_append.1 hx with hx | hx
  ·exact h.lo x (by simp [hx])
  ·rw [List.mem_singleton.1 hx, hz]; exact h.lo y (by simp)
 ·intro x hx
  rcases List.mem_append.1 hx with hx | hx
  ·exact rd_gr (h.rd x (by simp [hx])) hgo (fun p hp => h.ra x (by simp [hx]) p hp)
  ·rw [List.mem_singleton.1 hx]
   exact rd_gr hr hg (fun p hp e => (hq p hp).2 (Option.some.inj e).symm)
 ·intro x hx
  rcases List.mem_append.1 hx with hx | hx
  ·exact h.no x (by simp [hx])
  ·rw [List.mem_singleton.1 hx]; exact hn
 ·intro x hx p hp
  rcases List.mem_append.1 hx with hx | hx
  ·exact Nat.lt_of_lt_of_le (h.pl x (by simp [hx]) p hp) hg.size
  ·rw [List.mem_singleton.1 hx] at hp; exact Nat.lt_of_lt_of_le (hq p hp).1 hg.size
 ·intro x hx p hp
  rcases List.mem_append.1 hx with hx | hx
  ·exact h.ra x (by simp [hx]) p hp
  ·rw [List.mem_singleton.1 hx] at hp
   exact fun e => (hq p hp).2 (Option.some.inj e).symm
 ·obtain ⟨cur, hc⟩ := h.row.typed (b := g) rfl
  cases e
  exact ⟨cur, _, hc⟩
theorem okS.short {s : Sc} (h : okS s) : s.ws.length ≤ 64 := by
 rcases h.2.2.2 with ⟨-, -, -, h9⟩ | ⟨-, -, h9⟩
 ·have := right_W h9
  omega
 ·simp [h9]
theorem rd_oww {w : World} {B n c : Nat} {a : Option Addr} {ws : List Nat} (h : OwW w B (.slice a n c) ws) (hl : ws.length ≤ 1048576) (hx : ∀ y ∈ ws, y < 18446744073709551616) : Rd w a ws := by
 refine ⟨hl, hx, ?_⟩
 rcases h.2 with ⟨e, h0⟩ | ⟨g, cap, cur, e, -⟩
 ·exact .inl (List.eq_nil_of_length_eq_zero h0)
 ·cases e
  refine .inr ⟨g, 0, rfl, fun i hi => ?_⟩
  have h9 := World.ownsRow.cells h (g := g) rfl i (.int .u64 ((ws.getD i 0 : Nat) : Int)) (by simp [u64s, List.getD, hi])
  rw [Addr.add_lit] at h9
  exact h9
theorem Gi.merge {w u u1 : World} {b g n c M : Nat} {L : List Sc} {pre : List Sg} {ow : Bool} {k : List Sg} {x y z : Sg} (h : Gi w b L pre ow (.slice (some ⟨g, 0, none⟩) n c) (k ++ [y]) u) (hM : k.length = M)
  (hA : OwW u b (.slice y.a y.ct.ws.length y.c) y.ct.ws) (hd : ∀ t ∈ k, ∀ p q, y.a = some p → t.a = some q → p.block ≠ q.block)
  (hg : u.grownBy u1 (Value.slice y.a y.ct.ws.length y.c).ownBlock) (hz : z.ct = oneS y.ct x.ct) (hZ : OwW u1 b (.slice z.a z.ct.ws.length z.c) z.ct.ws)
  (hl : ∀ j, (Value.slice z.a z.ct.ws.length z.c).ownBlock = some j → (Value.slice y.a y.ct.ws.length y.c).ownBlock = some j ∨ u.heap.size ≤ j)
  (hx : okS x.ct) (ho : oneB y.ct x.ct = true) (hw : y.ct.wd + x.ct.wd ≤ 4096) (hp : (pre ++ [x]).map Sg.ct <+: L) :
  Gi w b L (pre ++ [x]) true (.slice (some ⟨g, 0, none⟩) n c) (k ++ [z]) ((put5 u1 g (M * 5) z).setCell ⟨b + 1 + 1 + 1, 0, none⟩ (.bool true)) ∧ Nz u ((put5 u1 g (M * 5) z).setCell ⟨b + 1 + 1 + 1, 0, none⟩ (.bool true)) ∧ Below b u ((put5 u1 g (M * 5) z).setCell ⟨b + 1 + 1 + 1, 0, none⟩ (.bool true)) := by
 have hyo : okS y.ct := h.nf.ok y.ct (by simp)
 have hzo : okS z.ct := by rw [hz]; exact oneS_ok hyo hx hw
 have hgt := h.row.typed (b := g) rfl
 have hgl := h.row.lt (b := g) rfl
 have hyg : (Value.slice y.a y.ct.ws.length y.c).ownBlock ≠ some g := fun e => by
  obtain ⟨cur, hc⟩ := hgt
  obtain ⟨⟨cur', hc'⟩, -⟩ := oww_typed hA e
  rw [hc] at hc'
  cases hc'
 have hy0 : ∀ j, (Value.slice y.a y.ct.ws.length y.c).ownBlock = some j → b ≤ j := fun j e => (oww_typed hA e).2
 have hr1 : OS5 u1 b (.slice (some ⟨g, 0, none⟩) n c) (k ++ [y]) := h.row.move fun j hj => by
  cases hj
  exact hg.block g hgl.2 (fun e => hyg e.symm)
 obtain ⟨hr2, hg2⟩ := os5_put5 z hr1 hM
 have q0 := bz_os5 (bz_oww h.r0 hA (by decide) hg) hr1 (by decide) hg2
 have q1 := bz_os5 (bz_oww h.r1 hA (by decide) hg) hr1 (by decide) hg2
 have q2 := bz_os5 (bz_oww h.fx hA (by decide) hg) hr1 (by decide) hg2
 have q3 := bz_os5 (bz_oww h.ox hA (by decide) hg) hr1 (by decide) hg2
 have hbu : b ≤ u.heap.size := by have := h.r0.lt; omega
 have b1 : Below b u u1 := ⟨hg.os, hg.tape, hg.output, hg.size, fun j hj => hg.block j (by omega) (fun e => by have := hy0 j e.symm; omega)⟩
 have b2 : Below b u1 (put5 u1 g (M * 5) z) := ⟨hg2.os, hg2.tape, hg2.output, hg2.size, fun j hj => hg2.block j (by have := hg.size; omega) (fun e => by cases e; omega)⟩
 have b3 : Below b u ((put5 u1 g (M * 5) z).setCell ⟨b + 1 + 1 + 1, 0, none⟩ (.bool true)) := (b1.trans b2).setCell (p := ⟨b + 1 + 1 + 1, 0, none⟩) (by simp only []; omega) _
 have hzg : ∀ p, z.a = some p → p.block ≠ g := fun p hp9 e => by
  rcases hl p.block (by rw [hp9]; rfl) with h9 | h9
  ·rw [e] at h9; exact hyg h9
  ·omega
 have hzr : Rd u1 z.a z.ct.ws := rd_oww hZ (by have := hzo.short; omega) hzo.2.2.1
 have hsz : u.heap.size ≤ ((put5 u1 g (M * 5) z).setCell ⟨b + 1 + 1 + 1, 0, none⟩ (.bool true)).heap.size := b3.size
 have hzt : ∀ t ∈ k, ∀ p q, z.a = some p → t.a = some q → p.block ≠ q.block := fun t ht p q hp9 hq9 e => by
  rcases hl p.block (by rw [hp9]; rfl) with h9 | h9
  ·cases hya : y.a with
   | none => rw [hya] at h9; cases h9
   | some r =>
    rw [hya] at h9
    exact hd t ht r q hya hq9 (by rw [← e]; exact Option.some.inj h9)
  ·have := h.pl t (by simp [ht]) q hq9
   omega
 have hZ2 : OwW (put5 u1 g (M * 5) z) b (.slice z.a z.ct.ws.length z.c) z.ct.ws := World.ownsRow.kept hZ hg2 (.inr fun e => by
  cases hza : z.a with
  | none => rw [hza] at e; cases e
  | some p => rw [hza] at e; exact hzg p hza (Option.some.inj e))
 refine ⟨⟨q0.other (by omega) 0 _, q1.other (by omega) 0 _, q2.other (by omega) 0 _, q3.set 0 _, os5_set hr2 q3 (by decide) _, ?_, ?_, ?_, by have := h.len; simpa using this, ?_, ?_, ?_, fun _ => ⟨k, z, rfl, oww_set hZ2 q3 (by decide) _, hzt⟩, ?_, hp, h.bel.trans b3⟩, ?_, b3⟩
 ·have h9 := h.nf
  rw [List.map_append] at h9 ⊢
  rw [show [z].map Sg.ct = [oneS y.ct x.ct] by simp [hz]]
  exact Nf.last h9 (by rw [← hz]; exact hzo)
 ·have h9 := h.bits
  rw [List.map_append] at h9 ⊢
  rw [show [z].map Sg.ct = [oneS y.ct x.ct] by simp [hz], formP_one hyo hx ho, List.map_append, formP_app (pre.map Sg.ct), ← h9]
  rfl
 ·intro t ht
  rcases List.mem_append.1 ht with ht | ht
  ·exact h.lo t (by simp [ht])
  ·rw [List.mem_singleton.1 ht, hz]
   have h9 := h.lo y (by simp)
   unfold oneS
   split
   ·simp
   ·exact h9
 ·intro t ht
  rcases List.mem_append.1 ht with ht | ht
  ·have t1 : Rd u1 t.a t.ct.ws := rd_gr (h.rd t (by simp [ht])) hg (fun q hq9 e => by
    cases hya : y.a with
    | none => rw [hya] at e; cases e
    | some r => rw [hya] at e; exact hd t ht r q hya hq9 (Option.some.inj e))
   have t2 := rd_gr t1 hg2 (fun q hq9 e => h.ra t (by simp [ht]) q hq9 e)
   exact rd_set t2 q3 (no_u64 (fun n e => by cases e)) 0 _
  ·rw [List.mem_singleton.1 ht]
   have t2 := rd_gr hzr hg2 (fun q hq9 e => hzg q hq9 (Option.some.inj e).symm)
   exact rd_set t2 q3 (no_u64 (fun n e => by cases e)) 0 _
 ·intro t ht
  rcases List.mem_append.1 ht with ht | ht
  ·exact h.no t (by simp [ht])
  ·rw [List.mem_singleton.1 ht]
   intro e
   rcases hZ.2 with ⟨e9, -⟩ | ⟨g9, cap, cur, e9, -⟩
   ·simp at e9
    exact e9.2.2
   ·rw [e] at e9; simp at e9
 ·intro t ht p hp9
  rcases List.mem_append.1 ht with ht | ht
  ·exact Nat.lt_of_lt_of_le (h.pl t (by simp [ht]) p hp9) hsz
  ·rw [List.mem_singleton.1 ht] at hp9
   have h9 := (World.ownsRow.lt hZ2 p.block (by rw [hp9]; rfl)).2
   simpa using h9
 ·intro t ht p hp9
  rcases List.mem_append.1 ht with ht | ht
  ·exact h.ra t (by simp [ht]) p hp9
  ·rw [List.mem_singleton.1 ht] at hp9
   exact fun e => hzg p hp9 (Option.some.inj e).symm
 ·refine ((Nz.grown hg (fun r e => ?_)).trans (Nz.grown hg2 (fun r e => ?_))).trans (Nz.set q3 _)
  ·obtain ⟨⟨cur, hc⟩, -⟩ := oww_typed hA e
   exact ⟨cur, _, hc⟩
  ·cases e
   obtain ⟨cur, hc⟩ := hr1.typed (b := g) rfl
   exact ⟨cur, _, hc⟩
theorem heap_put2 {w : World} {b g o : Nat} {cs : Array Value} {t : TypeId} {y : Sg} (h : Bz w b cs t) (e : b ≠ g) : Bz (put2 w g o y) b cs t := (h.other e _ _).other e _ _
theorem oww_form {w : World} {B : Nat} {v : Value} {l : List Nat} (h : OwW w B v l) : ∃ a c, v = .slice a l.length c := by
 rcases h.2 with ⟨e, h0⟩ | ⟨g, cap, cur, e, -⟩
 ·exact ⟨none, 0, by rw [h0]; exact e⟩
 ·exact ⟨_, _, e⟩
theorem os5_oww {w w' : World} {B B' : Nat} {v v' : Value} {l : List Sg} {xs : List Nat} (h : OS5 w B v l) (hA : OwW w B' v' xs) (hg : w.grownBy w' v'.ownBlock) : OS5 w' B v l := h.move fun j hj => hg.block j (h.lt hj).2 (fun e => by
 obtain ⟨cur, hc⟩ := h.typed hj
 obtain ⟨⟨cur', hc'⟩, -⟩ := oww_typed hA e.symm
 rw [hc] at hc'
 cases hc')
def OG (b : Nat) (ow : Bool) (v : Value) (l : List Sg) : Nat → Prop := fun k => k = b + 1 + 1 ∨ k = b + 1 + 1 + 1 ∨ v.ownBlock = some k ∨ (ow = true ∧ ∃ l' x q, l = l' ++ [x] ∧ x.a = some q ∧ q.block = k)
theorem Gi.lt {w W : World} {b : Nat} {L : List Sc} {pre : List Sg} {ow : Bool} {v : Value} {l : List Sg} (h : Gi w b L pre ow v l W) : ∀ k, OG b ow v l k → k < W.heap.size := fun k hk => by
 rcases hk with rfl | rfl | hk | ⟨-, l', x, q, rfl, hq, rfl⟩
 ·exact h.fx.lt
 ·exact h.ox.lt
 ·exact (h.row.lt hk).2
 ·exact h.pl x (by simp) q hq
theorem Ko.grown {O : Nat → Prop} {W A B : World} {row : Option Nat} (h : Ko O W A) (hg : A.grownBy B row) (hr : ∀ r, row = some r → O r ∨ W.heap.size ≤ r) : Ko O W B := ⟨Nat.le_trans h.1 hg.size, fun k o hk hc hn => by
 have h9 := h.2 k o hk hc hn
 rw [hg.block k (Array.getElem?_eq_some_iff.1 h9).1 (fun e => by
  rcases hr k e.symm with h8 | h8
  ·exact hn h8
  ·have := (Array.getElem?_eq_some_iff.1 hk).1; omega)]
 exact h9⟩
theorem Ko.set {O : Nat → Prop} {W A : World} (h : Ko O W A) {β i : Nat} (hb : O β) (u : Value) : Ko O W (A.setCell ⟨β, i, none⟩ u) := ⟨by have := h.1; simpa using this, fun k o hk hc hn => by
 rw [heap_setCell_other _ _ _ _ (fun e => hn (by simp only [] at e; rw [e]; exact hb))]
 exact h.2 k o hk hc hn⟩
theorem Ko.below {O : Nat → Prop} {W A B : World} (h : Ko O W A) (hb : Below A.heap.size A B) : Ko O W B := h.trans ((Cz.below hb).ko O)
theorem Ko.refl (O : Nat → Prop) (W : World) : Ko O W W := (Cz.refl W).ko O
theorem app_ko {W m w6 : World} {b N g6 c6 vc : Nat} {va : Option Addr} {ow : Bool} {k : List Sg} {x : Sg} (h : Ko (OG b ow (.slice va N vc) k) W m) (hg : m.grownBy w6 (Value.slice va N vc).ownBlock) (hl : (Value.slice va N vc).ownBlock = some g6 ∨ g6 = m.heap.size) :
  Ko (OG b ow (.slice va N vc) k) W ((w6.setCell ⟨b + 1 + 1, 0, none⟩ (.slice (some ⟨g6, 0, none⟩) (N + 1) c6)).setCell ⟨b + 1 + 1 + 1, 0, none⟩ (.bool false)) ∧ ∀ r, OG b false (.slice (some ⟨g6, 0, none⟩) (N + 1) c6) (k ++ [x]) r → OG b ow (.slice va N vc) k r ∨ W.heap.size ≤ r := by
 refine ⟨((h.grown hg (fun r hr => .inl (.inr (.inr (.inl hr))))).set (.inl rfl) _).set (.inr (.inl rfl)) _, fun r hr => ?_⟩
 rcases hr with hr | hr | hr | ⟨hr, -⟩
 ·exact .inl (.inl hr)
 ·exact .inl (.inr (.inl hr))
 ·have e : g6 = r := Option.some.inj hr
  subst e
  rcases hl with hl | hl
  ·exact .inl (.inr (.inr (.inl hl)))
  ·exact .inr (by have := h.1; omega)
 ·cases hr
theorem merge_ko {W u u1 : World} {b g n c M : Nat} {O : Nat → Prop} {k : List Sg} {y z : Sg} (h : Ko O W u) (h2 : O (b + 1 + 1)) (h3 : O (b + 1 + 1 + 1)) (hOg : O g) (hy : ∀ r, (Value.slice y.a y.ct.ws.length y.c).ownBlock = some r → O r ∨ W.heap.size ≤ r)
  (hr : OS5 u1 b (.slice (some ⟨g, 0, none⟩) n c) (k ++ [y])) (hM : k.length = M)
  (hg : u.grownBy u1 (Value.slice y.a y.ct.ws.length y.c).ownBlock) (hl : ∀ j, (Value.slice z.a z.ct.ws.length z.c).ownBlock = some j → (Value.slice y.a y.ct.ws.length y.c).ownBlock = some j ∨ u.heap.size ≤ j) :
  Ko O W ((put5 u1 g (M * 5) z).setCell ⟨b + 1 + 1 + 1, 0, none⟩ (.bool true)) ∧ ∀ r, OG b true (.slice (some ⟨g, 0, none⟩) n c) (k ++ [z]) r → O r ∨ W.heap.size ≤ r := by
 refine ⟨((h.grown hg hy).grown (os5_put5 z hr hM).2 (fun r hr => .inl (by cases hr; exact hOg))).set h3 _, fun r hr => ?_⟩
 rcases hr with hr | hr | hr | ⟨-, l', x, q, he, hq, rfl⟩
 ·exact .inl (by rw [hr]; exact h2)
 ·exact .inl (by rw [hr]; exact h3)
 ·have e : g = r := Option.some.inj hr
  exact .inl (by rw [← e]; exact hOg)
 ·obtain ⟨-, e2⟩ := List.append_inj' he rfl
  cases e2
  rcases hl q.block (by rw [hq]; rfl) with h9 | h9
  ·exact hy _ h9
  ·exact .inr (Nat.le_trans h.1 h9)

open Go.RowKit
def RetCu (x : Sg) (p m : Nat) (w : World) (e : Ending) (w' : World) : Prop := ∃ a c, e = .returned (sgV ⟨cutS x.ct p m, a, c⟩) ∧ Rd w' a (cutS x.ct p m).ws ∧ (a = none → c = 0) ∧ (∀ q, a = some q → (x.a = some q ∨ w.heap.size ≤ q.block) ∧ q.block < w'.heap.size) ∧ Below w.heap.size w w'
theorem Fresh.rdq {w : World} {lo : Nat} {a : Option Addr} {ys : List Nat} (h : Fresh w lo a ys) (h1 : 1 ≤ ys.length) (hl : ys.length ≤ 1048576) (hx : ∀ x ∈ ys, x < 18446744073709551616) : Rd w a ys ∧ ∃ g, a = some ⟨g, 0, none⟩ ∧ lo ≤ g ∧ g < w.heap.size := by
 rcases h with ⟨h2, h3⟩ | ⟨g, h3, h4, h5⟩
 ·rw [h2] at h1; simp at h1
 ·exact ⟨by rw [h3]; exact h5.rd hl hx, g, h3, h4, h5.lt⟩
set_option maxHeartbeats 400000 in
theorem constSeg_any (W : Int) (a : Option Addr) (n c : Nat) (w : World) :
  Calls Try.prog 64 #[.agg #[.int .i64 W, .slice a n c]] w fun e w' => e = .returned (.agg #[.int .i64 (-1), .int .i64 0, .int .i64 W, .int .i64 W, .slice a n c]) ∧ Below w.heap.size w w' := by
 have BB : Hid (Below w.heap.size w ((w.alloc (Obj.cells #[.int .i64 W, .slice a n c] 32)).alloc (Obj.cells #[.int .i64 (-1), .int .i64 0, .int .i64 W, .int .i64 W, .slice a n c] 34))) := ((Below.refl _ _).alloc (Nat.le_refl _) _).alloc (by simp) _
 go_enter Try.func64, Try.ntmps64
 go_wp2_with fail
 exact bodyPost_ret (v := .agg #[.int .i64 (-1), .int .i64 0, .int .i64 W, .int .i64 W, .slice a n c]) (by simp [results, Try.results64, go_sem]) rfl ⟨rfl, BB.out⟩
set_option maxHeartbeats 1000000 in
theorem segPart_any (x : Sg) (p m : Nat) (w : World) (hok : okS x.ct) (hlo : 0 ≤ x.ct.lo ∧ x.ct.lo + x.ct.wd ≤ 4096) (hm : 1 ≤ m) (hp : (p : Int) + m ≤ x.ct.wd) (hr : Rd w x.a x.ct.ws) (hn : x.a = none → x.c = 0) (hl : ∀ q, x.a = some q → q.block < w.heap.size) :
  Calls Try.prog 43 #[.agg #[.int .i64 x.ct.v, .int .i64 x.ct.lo, .int .i64 x.ct.wd, .int .i64 x.ct.bw, .slice x.a x.ct.ws.length x.c], .int .i64 (p : Int), .int .i64 (m : Int)] w (RetCu x p m w) := by
 obtain ⟨⟨v, lo, wd, bw, ws⟩, sa, sc⟩ := x
 simp only [] at hok hlo hp hr hn hl ⊢
 have hwd := hok.2.1
 simp only [] at hwd
 obtain ⟨wl, hwl⟩ : ∃ n, ws.length = n := ⟨_, rfl⟩
 have HWL := kide hwl
 by_cases e1 : (m : Int) = wd
 ·have hc : cutS ⟨v, lo, wd, bw, ws⟩ p m = ⟨v, lo, wd, bw, ws⟩ := by unfold cutS; rw [if_pos e1]
  unfold RetCu
  simp only []
  rw [hc]
  unfold sgV
  simp only []
  subst e1
  have hb : Below w.heap.size w ((w.alloc (Obj.cells #[.int .i64 v, .int .i64 lo, .int .i64 (m : Int), .int .i64 bw, .slice sa wl sc] 34)).alloc (Obj.cells #[.int .i64 v, .int .i64 lo, .int .i64 (m : Int), .int .i64 bw, .slice sa wl sc] 34)) := ((Below.refl _ _).alloc (Nat.le_refl _) _).alloc (by simp) _
  have BB := kide hb
  have HR := kide hr
  have HN := kide hn
  have HL := kide hl
  clear hc hr hn hl hok hb
  rw [hwl]
  clear hwl
  go_enter Try.func43, Try.ntmps43
  go_wp2_with fail
  exact bodyPost_ret (v := .agg #[.int .i64 v, .int .i64 lo, .int .i64 (m : Int), .int .i64 bw, .slice sa wl sc]) (by simp [results, Try.results43, go_sem]) rfl ⟨sa, sc, rfl, HR.out.later BB.out, HN.out, fun q hq => ⟨.inl hq, Nat.lt_of_lt_of_le (HL.out q hq) BB.out.size⟩, BB.out⟩
 ·have e1b : ((m : Int) == wd) = false := beq_eq_false_iff_ne.2 e1
  by_cases e2 : v = -1
  ·have hbw : bw = wd := by
    rcases hok.2.2.2 with h9 | h9
    ·exact h9.2.2.1
    ·simp only [] at h9; omega
   have hrt : rightB bw ws = true := by
    rcases hok.2.2.2 with h9 | h9
    ·exact h9.2.2.2
    ·simp only [] at h9; omega
   subst e2 hbw
   obtain ⟨W, rfl⟩ := Int.eq_ofNat_of_zero_le (show 0 ≤ bw by omega)
   obtain ⟨P9, hP9⟩ : ∃ P, pack (((bitsTo ws W).drop p).take m) = P := ⟨_, rfl⟩
   have hc : cutS ⟨-1, lo, (W : Int), (W : Int), ws⟩ p m = ⟨-1, 0, (m : Int), (m : Int), P9⟩ := by
    unfold cutS
    rw [if_neg e1, if_pos rfl]
    simp only [Int.toNat_natCast, hP9]
   have hPL : P9.length = (m + 63) / 64 := by rw [← hP9, pack_len, cut_len _ _ _ _ (by omega)]
   have hpart : partR (W : Int) ws ((p : Int) + (m : Int) - 1) (p : Int) = ((m : Int), P9, true) := by
    unfold partR
    rw [if_pos ⟨hrt, by omega, by omega, by omega⟩]
    rw [Int.toNat_natCast, Int.toNat_natCast, show (p : Int) + (m : Int) - 1 - (p : Int) + 1 = (m : Int) by omega, Int.toNat_natCast, hP9]
   have HPL : Hid (1 ≤ P9.length ∧ P9.length ≤ 1048576 ∧ ∀ x ∈ P9, x < 18446744073709551616) := ⟨by omega, by omega, by rw [← hP9]; exact pack_lt _⟩
   unfold RetCu
   simp only []
   rw [hc]
   unfold sgV
   simp only []
   have HPT := kide (fun u (hu : Below w.heap.size w u) => implPart_any (W : Int) sa sc ws ((p : Int) + (m : Int) - 1) (p : Int) u (hr.later hu) (WalkArith.wf_i64 ⟨by omega, by omega⟩))
   rw [hpart, hwl] at HPT
   rw [hwl]
   have hw1 : IntKind.i64.wrap ((p : Int) + (m : Int)) = (p : Int) + (m : Int) := by rw [IntKind.wrap_i64]; omega
   have hw2 : IntKind.i64.wrap ((p : Int) + (m : Int) - 1) = (p : Int) + (m : Int) - 1 := by rw [IntKind.wrap_i64]; omega
   have hb1 : Below w.heap.size w ((w.alloc (Obj.cells #[.int .i64 (-1), .int .i64 lo, .int .i64 (W : Int), .int .i64 (W : Int), .slice sa wl sc] 34)).alloc (Obj.cells #[.int .i64 0, .int .i64 0, .int .i64 0, .int .i64 0, .slice none 0 0] 34)) := ((Below.refl _ _).alloc (Nat.le_refl _) _).alloc (by simp) _
   have XB := kide ((Bz.new w #[.int .i64 (-1), .int .i64 lo, .int .i64 (W : Int), .int .i64 (W : Int), .slice sa wl sc] 34).later ((Below.refl _ _).alloc (Nat.le_refl _) (Obj.cells #[.int .i64 0, .int .i64 0, .int .i64 0, .int .i64 0, .slice none 0 0] 34)))
   have XR : Hid (Bz ((w.alloc (Obj.cells #[.int .i64 (-1), .int .i64 lo, .int .i64 (W : Int), .int .i64 (W : Int), .slice sa wl sc] 34)).alloc (Obj.cells #[.int .i64 0, .int .i64 0, .int .i64 0, .int .i64 0, .slice none 0 0] 34)) (w.heap.size + 1) #[.int .i64 0, .int .i64 0, .int .i64 0, .int .i64 0, .slice none 0 0] 34) := by
    have h9 := Bz.new (w.alloc (Obj.cells #[.int .i64 (-1), .int .i64 lo, .int .i64 (W : Int), .int .i64 (W : Int), .slice sa wl sc] 34)) #[.int .i64 0, .int .i64 0, .int .i64 0, .int .i64 0, .slice none 0 0] 34
    rwa [show (w.alloc (Obj.cells #[.int .i64 (-1), .int .i64 lo, .int .i64 (W : Int), .int .i64 (W : Int), .slice sa wl sc] 34)).heap.size = w.heap.size + 1 by simp] at h9
   have BV := kide hb1
   clear hok hr hn hl hc hpart hP9 hPL hrt hb1
   go_enter Try.func43, Try.ntmps43
   go_wp2_with fail
   generalize (w.alloc (Obj.cells #[.int .i64 (-1), .int .i64 lo, .int .i64 (W : Int), .int .i64 (W : Int), .slice sa wl sc] 34)).alloc (Obj.cells #[.int .i64 0, .int .i64 0, .int .i64 0, .int .i64 0, .slice none 0 0] 34) = V at *
   refine Calls.mono (HPT.out V BV.out) ?_
   rintro e V2 ⟨a9, c9, rfl, hf9, hb9⟩
   obtain ⟨r9, g9, rfl, l9, m9⟩ := hf9.rdq HPL.out.1 HPL.out.2.1 HPL.out.2.2
   have XR2 := kide (XR.out.later hb9)
   have R9 := kide r9
   have B2 := kide (BV.out.trans (hb9.mono BV.out.size))
   have LG : Hid (w.heap.size ≤ g9) := Nat.le_trans BV.out.size l9
   have LV := kide l9
   clear hf9 r9 hb9 l9
   have BA : Hid (Below V2.heap.size V2 (V2.alloc (Obj.cells #[.int .i64 (m : Int), .slice (some ⟨g9, 0, none⟩) P9.length c9] 32))) := (Below.refl _ _).alloc (Nat.le_refl _) _
   go_wp2_with fail
   refine Calls.mono (constSeg_any _ _ _ _ _) ?_
   rintro e V3 ⟨rfl, hb3⟩
   have b3 := BA.out.trans (hb3.mono BA.out.size)
   have XR3 := XR2.out.later b3
   have B3 := kide (B2.out.trans (b3.mono B2.out.size))
   have R3 := kide (R9.out.later b3)
   have m3 : g9 < V3.heap.size := Nat.lt_of_lt_of_le m9 b3.size
   have y0 := XR3.cell 0
   have y1 := XR3.cell 1
   have y2 := XR3.cell 2
   have y3 := XR3.cell 3
   have y4 := XR3.cell 4
   have z0 := XR3.froz 0
   have z1 := XR3.froz 1
   have z2 := XR3.froz 2
   have z3 := XR3.froz 3
   have z4 := XR3.froz 4
   simp at y0 y1 y2 y3 y4
   have XR9 := kide XR3
   clear hb3 b3 XR3
   have Y9 : Hid (Bz (((((V3.setCell ⟨w.heap.size + 1, 0, none⟩ (Value.int .i64 (-1))).setCell ⟨w.heap.size + 1, 1, none⟩ (Value.int .i64 0)).setCell ⟨w.heap.size + 1, 2, none⟩ (Value.int .i64 (m : Int))).setCell ⟨w.heap.size + 1, 3, none⟩ (Value.int .i64 (m : Int))).setCell ⟨w.heap.size + 1, 4, none⟩ (Value.slice (some ⟨g9, 0, none⟩) P9.length c9)) (w.heap.size + 1) #[.int .i64 (-1), .int .i64 0, .int .i64 (m : Int), .int .i64 (m : Int), .slice (some ⟨g9, 0, none⟩) P9.length c9] 34) := (((((XR9.out.set 0 _).set 1 _).set 2 _).set 3 _).set 4 _)
   have BZ : Hid (Below w.heap.size w (((((V3.setCell ⟨w.heap.size + 1, 0, none⟩ (Value.int .i64 (-1))).setCell ⟨w.heap.size + 1, 1, none⟩ (Value.int .i64 0)).setCell ⟨w.heap.size + 1, 2, none⟩ (Value.int .i64 (m : Int))).setCell ⟨w.heap.size + 1, 3, none⟩ (Value.int .i64 (m : Int))).setCell ⟨w.heap.size + 1, 4, none⟩ (Value.slice (some ⟨g9, 0, none⟩) P9.length c9))) := (((((B3.out.setCell (p := ⟨w.heap.size + 1, 0, none⟩) (Nat.le_succ _) _).setCell (p := ⟨w.heap.size + 1, 1, none⟩) (Nat.le_succ _) _).setCell (p := ⟨w.heap.size + 1, 2, none⟩) (Nat.le_succ _) _).setCell (p := ⟨w.heap.size + 1, 3, none⟩) (Nat.le_succ _) _).setCell (p := ⟨w.heap.size + 1, 4, none⟩) (Nat.le_succ _) _)
   have GZ : Hid (V3.grownBy (((((V3.setCell ⟨w.heap.size + 1, 0, none⟩ (Value.int .i64 (-1))).setCell ⟨w.heap.size + 1, 1, none⟩ (Value.int .i64 0)).setCell ⟨w.heap.size + 1, 2, none⟩ (Value.int .i64 (m : Int))).setCell ⟨w.heap.size + 1, 3, none⟩ (Value.int .i64 (m : Int))).setCell ⟨w.heap.size + 1, 4, none⟩ (Value.slice (some ⟨g9, 0, none⟩) P9.length c9)) (some (w.heap.size + 1))) := ⟨rfl, rfl, rfl, by simp, fun k hk hne => by
    have h9 : k ≠ w.heap.size + 1 := fun e => hne (by rw [e])
    rw [heap_setCell_other _ _ _ _ (by simpa using h9), heap_setCell_other _ _ _ _ (by simpa using h9), heap_setCell_other _ _ _ _ (by simpa using h9), heap_setCell_other _ _ _ _ (by simpa using h9), heap_setCell_other _ _ _ _ (by simpa using h9)]⟩
   have RZ := kide (rd_gr R3.out GZ.out (fun q hq e => by cases hq; have h9 := Option.some.inj e; simp only [] at h9; have := XR.out.lt; have := LV.out; omega))
   go_wp2_with fail
   generalize (((((V3.setCell ⟨w.heap.size + 1, 0, none⟩ (Value.int .i64 (-1))).setCell ⟨w.heap.size + 1, 1, none⟩ (Value.int .i64 0)).setCell ⟨w.heap.size + 1, 2, none⟩ (Value.int .i64 (m : Int))).setCell ⟨w.heap.size + 1, 3, none⟩ (Value.int .i64 (m : Int))).setCell ⟨w.heap.size + 1, 4, none⟩ (Value.slice (some ⟨g9, 0, none⟩) P9.length c9)) = Z at *
   have x0 := Y9.out.cell 0
   have x1 := Y9.out.cell 1
   have x2 := Y9.out.cell 2
   have x3 := Y9.out.cell 3
   have x4 := Y9.out.cell 4
   simp at x0 x1 x2 x3 x4
   exact bodyPost_ret (v := .agg #[.int .i64 (-1), .int .i64 0, .int .i64 (m : Int), .int .i64 (m : Int), .slice (some ⟨g9, 0, none⟩) P9.length c9]) (by simp [results, Try.results43, go_sem, x0, x1, x2, x3, x4]) rfl ⟨_, _, rfl, RZ.out, fun e => (by cases e), fun q hq => ⟨.inr (by cases hq; exact LG.out), by cases hq; exact Nat.lt_of_lt_of_le m3 GZ.out.size⟩, BZ.out⟩
  ·have hv0 : 0 ≤ v := by
    rcases hok.2.2.2 with h9 | h9
    ·exact absurd h9.1 e2
    ·exact h9.1
   have e2b : (v == -1) = false := beq_eq_false_iff_ne.2 e2
   have hc : cutS ⟨v, lo, wd, bw, ws⟩ p m = ⟨v, lo + p, (m : Int), 0, []⟩ := by unfold cutS; rw [if_neg e1, if_neg e2]
   unfold RetCu
   simp only []
   rw [hc]
   unfold sgV
   simp only [List.length_nil]
   rw [hwl]
   have hw1 : IntKind.i64.wrap (lo + (p : Int)) = lo + (p : Int) := by rw [IntKind.wrap_i64]; omega
   have hb : Below w.heap.size w ((w.alloc (Obj.cells #[.int .i64 v, .int .i64 lo, .int .i64 wd, .int .i64 bw, .slice sa wl sc] 34)).alloc (Obj.cells #[.int .i64 v, .int .i64 (lo + p), .int .i64 (m : Int), .int .i64 0, .slice none 0 0] 34)) := ((Below.refl _ _).alloc (Nat.le_refl _) _).alloc (by simp) _
   have BB := kide hb
   clear hok hr hn hl hc hb
   go_enter Try.func43, Try.ntmps43
   go_wp2_with fail
   exact bodyPost_ret (v := .agg #[.int .i64 v, .int .i64 (lo + p), .int .i64 (m : Int), .int .i64 0, .slice none 0 0]) (by simp [results, Try.results43, go_sem]) rfl ⟨none, 0, rfl, ⟨by simp, by simp, .inl rfl⟩, fun _ => rfl, fun q hq => (by cases hq), BB.out⟩
open Go.RowKit Go.Shelf
attribute [local go_sem] Oper.semAt_some

structure AtS (B : Nat) (w : World) (x : Sg) : Prop where
 ok : okS x.ct
 lo : 0 ≤ x.ct.lo ∧ x.ct.lo + x.ct.wd ≤ 4096
 rd : Rd w x.a x.ct.ws
 no : x.a = none → x.c = 0
 pl : ∀ q, x.a = some q → q.block < B
theorem rd_low {w w' : World} {B : Nat} {a : Option Addr} {xs : List Nat} (h : Rd w a xs) (hb : Below B w w') (hp : ∀ q, a = some q → q.block < B) : Rd w' a xs := by
 obtain ⟨h1, h2, h3⟩ := h
 refine ⟨h1, h2, ?_⟩
 rcases h3 with h3 | ⟨b, o, rfl, hc⟩
 ·exact .inl h3
 ·exact .inr ⟨b, o, rfl, fun i hi => (hb.cell (p := ⟨b, o + i, none⟩) (hp ⟨b, o, none⟩ rfl)).trans (hc i hi)⟩
set_option maxHeartbeats 2000000 in
set_option maxRecDepth 100000 in
theorem between_seq (n : Nat) (lo en B : Nat) (bf bl be fb fo fc N : Nat) (xs : List Sg) (w : World) (hB : B ≤ w.heap.size) (hN : xs.length = N) (hN2 : N ≤ 2000) (hxs : ∀ x ∈ xs, AtS B w x) (hsum : sumS (xs.map Sg.ct) ≤ 4096) (hlo : lo ≤ 4096) (hen : en ≤ 4096)
  (h1 : Bz w bf #[.slice (some ⟨fb, fo, none⟩) N fc] 25) (h2 : Bz w bl #[.int .i64 (lo : Int)] 2) (h3 : Bz w be #[.int .i64 (en : Int)] 2) (l1 : bf < B) (l2 : bl < B) (l3 : be < B) (l4 : fb < B)
  (hc : ∀ i x, xs[i]? = some x → ShAt w fb (fo + i * 5) x.hd) :
  SeqS n 42 #[.pointer (some ⟨bf, 0, none⟩), .pointer (some ⟨bl, 0, none⟩), .pointer (some ⟨be, 0, none⟩)] (betS lo en 0 (xs.map Sg.ct)) B w := by
 intro l J Jx O0 W hbW hJ hJx hlt hOw h0
 refine callsIn_of_wp Try.func42 rfl trivial ?_ rfl
 simp only [Try.ntmps42, List.size_toArray, List.length_cons, List.length_nil, Nat.reduceAdd, Nat.reduceSub, Array.replicate_succ, Array.replicate_zero, List.push_toArray, List.append_toArray, List.nil_append, List.cons_append]
 have c1 := (hbW.cell (p := ⟨bf, 0, none⟩) l1).trans (h1.cell 0)
 simp at c1
 have hct : ∀ k : Nat, (formP ((xs.map Sg.ct).take k)).length ≤ 4096 := fun k => by
  have h9 := formP_len ((xs.map Sg.ct).take k) (fun s hs => by
   obtain ⟨x, hx, rfl⟩ := List.mem_map.1 (List.mem_of_mem_take hs)
   have := (hxs x hx).ok.1
   omega)
  have h8 := take_sum (fs := xs.map Sg.ct) (fun s hs => by
   obtain ⟨x, hx, rfl⟩ := List.mem_map.1 hs
   exact (hxs x hx).ok.1) k
  omega
 have HCT := kide hct
 have HX := kide hxs
 have HC := kide hc
 have H1 := kide h1
 have H2 := kide h2
 have H3 := kide h3
 have HN := kide hN
 have HJ := kide hJ
 have HOW := kide hOw
 have HBW := kide hbW
 have hmx : Try.prog.follows .mixedOrders = true := by kernel_rfl
 have HLT := kide hlt
 clear hct hxs hc h1 h2 h3 hN hJ hOw hbW hsum hJx hlt
 gi_wp2
 gi_loopw [5, 12] (fun f i wr => ∃ (k : Nat) (pre : List Sg) (O : Nat → Prop), k ≤ N ∧ i = .int .i64 (k : Int) ∧ f = .int .i64 ((formP ((xs.map Sg.ct).take k)).length : Int) ∧ pre.map Sg.ct = betS lo en 0 ((xs.map Sg.ct).take k) ∧ J (pre, O) wr ∧ Below B W wr) (fun _ i _ => N - (intOf i).toNat)
 case atStart => exact ⟨0, [], O0, Nat.zero_le _, rfl, by simp [formP], by simp [betS], h0, Below.refl _ _⟩
 case round =>
  obtain ⟨k, pre, O, hk, rfl, rfl, hpre, hJp, hBr⟩ := hrel
  have hF := HCT.out k
  obtain ⟨F0, hF0⟩ : ∃ F0, (formP ((xs.map Sg.ct).take k)).length = F0 := ⟨_, rfl⟩
  rw [hF0] at hF ⊢
  have HPR := kide hpre
  have HJP := kide hJp
  have HBR := kide hBr
  have HF0 := kide hF0
  clear hpre hJp hBr hF0
  by_cases hlt : k < N
  ·obtain ⟨x, hx⟩ : ∃ x, xs[k]? = some x := ⟨xs[k]'(by rw [HN.out]; exact hlt), List.getElem?_eq_getElem _⟩
   have HXA := kide (HX.out x (List.mem_of_getElem? hx))
   obtain ⟨p0, p1, p2, p3, p4⟩ := HC.out k x hx
   simp only [Sg.hd] at p0 p1 p2 p3 p4
   have hB9 := HBW.out.trans HBR.out
   replace p0 := (hB9.cell (p := ⟨fb, fo + k * 5, none⟩) l4).trans p0
   replace p1 := (hB9.cell (p := ⟨fb, fo + k * 5 + 1, none⟩) l4).trans p1
   replace p2 := (hB9.cell (p := ⟨fb, fo + k * 5 + 2, none⟩) l4).trans p2
   replace p3 := (hB9.cell (p := ⟨fb, fo + k * 5 + 3, none⟩) l4).trans p3
   replace p4 := (hB9.cell (p := ⟨fb, fo + k * 5 + 4, none⟩) l4).trans p4
   have g2 := (hB9.cell (p := ⟨bl, 0, none⟩) l2).trans (H2.out.cell 0)
   have g3 := (hB9.cell (p := ⟨be, 0, none⟩) l3).trans (H3.out.cell 0)
   simp at g2 g3
   have HXK := kide hx
   have hkN : (k : Int) < (N : Int) := by omega
   have hk0 : (k : Int) ≥ 0 := by omega
   have q2 : bl < wr.heap.size := by have := hB9.size; omega
   have q3 : be < wr.heap.size := by have := hB9.size; omega
   obtain ⟨D, hD⟩ : ∃ D : Nat, x.ct.wd = (D : Int) := ⟨x.ct.wd.toNat, by have := HXA.out.ok.1; omega⟩
   have hD2 : D ≤ 4096 := by have := HXA.out.ok.2.1; omega
   have HD := kide hD
   rw [hD] at p2
   have hFw : IntKind.i64.wrap ((F0 : Int) + (D : Int)) = (F0 : Int) + (D : Int) := by rw [IntKind.wrap_i64]; omega
   obtain ⟨fr, hfr⟩ : ∃ fr, max F0 lo = fr := ⟨_, rfl⟩
   obtain ⟨to, hto⟩ : ∃ to, min (F0 + D) en = to := ⟨_, rfl⟩
   have hfri : max (F0 : Int) (lo : Int) = (fr : Int) := by omega
   have htoi : min ((F0 : Int) + (D : Int)) (en : Int) = (to : Int) := by omega
   have hbs := betS_snoc lo en (xs.map Sg.ct) (k := k) (s := x.ct) (by rw [List.getElem?_map, hx]; rfl)
   rw [HF0.out, show x.ct.wd.toNat = D by rw [hD]; rfl, hfr, hto] at hbs
   have HBS := kide hbs
   have HNX : Hid ((formP ((xs.map Sg.ct).take (k + 1))).length = F0 + D) := by
    show _ = _
    rw [formP_snoc (xs.map Sg.ct) (k := k) (s := x.ct) (by rw [List.getElem?_map, hx]; rfl), List.length_append, HF0.out, segPs_len, show x.ct.wd.toNat = D by rw [hD]; rfl]
   have hkw : IntKind.i64.wrap ((k : Int) + 1) = (k : Int) + 1 := by rw [IntKind.wrap_i64]; omega
   have BV : Hid (Below wr.heap.size wr (wr.alloc (Obj.cells #[.int .i64 x.ct.v, .int .i64 x.ct.lo, .int .i64 (D : Int), .int .i64 x.ct.bw, .slice x.a x.ct.ws.length x.c] 34)).drew) := ((Below.refl _ _).alloc (Nat.le_refl _) _).drew
   have XV : Hid (Bz (wr.alloc (Obj.cells #[.int .i64 x.ct.v, .int .i64 x.ct.lo, .int .i64 (D : Int), .int .i64 x.ct.bw, .slice x.a x.ct.ws.length x.c] 34)).drew wr.heap.size #[.int .i64 x.ct.v, .int .i64 x.ct.lo, .int .i64 (D : Int), .int .i64 x.ct.bw, .slice x.a x.ct.ws.length x.c] 34) := Bz.new wr _ _
   have hBz := hB9.size
   clear hx hB9 hD hbs
   gi_wp2
   gi_region
   generalize (wr.alloc (Obj.cells #[.int .i64 x.ct.v, .int .i64 x.ct.lo, .int .i64 (D : Int), .int .i64 x.ct.bw, .slice x.a x.ct.ws.length x.c] 34)).drew = V at *
   have v0 := XV.out.cell 0
   have v1 := XV.out.cell 1
   have v2 := XV.out.cell 2
   have v3 := XV.out.cell 3
   have v4 := XV.out.cell 4
   simp at v0 v1 v2 v3 v4
   by_cases hft : fr < to
   ·rw [if_pos hft] at HBS
    have hd1 : (fr : Int) < (to : Int) := by omega
    have hs1 : IntKind.i64.wrap ((fr : Int) - (F0 : Int)) = ((fr - F0 : Nat) : Int) := by rw [IntKind.wrap_i64]; omega
    have hs2 : IntKind.i64.wrap ((to : Int) - (fr : Int)) = ((to - fr : Nat) : Int) := by rw [IntKind.wrap_i64]; omega
    have hnn : ¬ (fr < F0) := by omega
    have HSP := kide (fun u (hu : Below wr.heap.size wr u) => segPart_any x (fr - F0) (to - fr) u HXA.out.ok HXA.out.lo (by omega) (by rw [HD.out]; omega) ((rd_low HXA.out.rd (HBW.out.trans HBR.out) HXA.out.pl).later hu) HXA.out.no (fun q hq => by have h9 := HXA.out.pl q hq; have := hu.size; omega))
    rw [HD.out] at HSP
    clear hfri htoi hfr hto
    gi_wp2
    refine ⟨trivial, (fun h => by cases h), callsIn_wide.2 (Calls.mono (HSP.out V BV.out) ?_)⟩
    rintro e V2 ⟨a2, c2, rfl, hr2, hn2, hq2, hb2⟩
    obtain ⟨Y, hYc, hYa, hYd⟩ : ∃ Y : Sg, Y.ct = cutS x.ct (fr - F0) (to - fr) ∧ Y.a = a2 ∧ Y.c = c2 := ⟨⟨_, a2, c2⟩, rfl, rfl, rfl⟩
    subst hYa hYd
    have eY : sgV ⟨cutS x.ct (fr - F0) (to - fr), Y.a, Y.c⟩ = sgV Y := by rw [← hYc]
    rw [← hYc] at hr2 HBS
    have hb3 := BV.out.trans (hb2.mono BV.out.size)
    have J2 := HJ.out _ _ V2 none HJP.out ⟨hb3.os, hb3.tape, hb3.output, hb3.size, fun j hj _ => hb3.block j hj⟩ (fun r e => by cases e)
    have hRdy : RdyS B (betS lo en 0 (xs.map Sg.ct)) wr.heap.size pre Y V2 := by
     refine ⟨?_, hr2, hn2, fun q hq => ⟨?_, (hq2 q hq).2⟩⟩
     ·rw [List.map_append, HPR.out, show [Y].map Sg.ct = [Y.ct] from rfl, ← HBS.out]
      exact betS_pre lo en _ _
     ·rcases (hq2 q hq).1 with h9 | h9
      ·exact .inl (HXA.out.pl q h9)
      ·exact .inr (Nat.le_trans BV.out.size h9)
    obtain ⟨fn, tmps, assign, body, hy, hR⟩ := HOW.out pre O Y wr V2 HJP.out (Cz.below hb3) J2 hRdy
    have v2 := (hb2.cell (p := ⟨wr.heap.size, 2, none⟩) XV.out.lt).trans v2
    have XV2 := kide (XV.out.later hb2)
    have HB3 := kide hb3
    have HYC := kide hYc
    have HNO : Hid (¬ O wr.heap.size) := fun h9 => by have := HLT.out _ _ HJP.out _ h9; omega
    clear hr2 hn2 hq2 hb2 hb3 J2 hRdy hYc
    rw [eY]
    clear eY
    unfold sgV at hy ⊢
    gi_wp2
    refine ⟨(fun h => by cases h), hR.mono ?_⟩
    rintro e W3 (⟨rfl, hK3, hO3, -, O', hJ3, hI3⟩ | ⟨rfl, -, hJx3⟩)
    ·have v3 := (show Bz W3 wr.heap.size _ _ from hO3.2 _ _ XV2.out rfl HNO.out).cell 2
     simp at v3
     gi_wp2
     go_roundw
     case rel => exact ⟨k + 1, pre ++ [Y], O', by omega, rfl, by rw [HNX.out]; rfl, by rw [HBS.out, List.map_append, HPR.out]; rfl, hJ3, (HBR.out.trans (HB3.out.mono (by have := HBR.out.size; have := HBW.out.size; omega))).trans hK3⟩
     case measure => simp only [intOf]; omega
    ·gi_wp2
     refine bodyPost_ret (results_none rfl _ _ _) rfl ?_
     refine ⟨⟨_, rfl⟩, .inr ⟨_, ?_, hJx3⟩⟩
     rw [List.map_append, HPR.out, show [Y].map Sg.ct = [Y.ct] from rfl, ← HBS.out]
     exact betS_pre lo en _ _
   ·rw [if_neg hft, List.append_nil] at HBS
    have hd1 : ¬ (fr : Int) < (to : Int) := by omega
    clear hfri htoi hfr hto
    gi_wp2
    refine ⟨trivial, ?_⟩
    gi_wp2
    refine ⟨(fun _ h => by cases h), ?_⟩
    gi_wp2
    go_roundw
    case rel => exact ⟨k + 1, pre, O, by omega, rfl, by rw [HNX.out]; rfl, by rw [HBS.out]; exact HPR.out, HJ.out _ _ _ none HJP.out ⟨BV.out.os, BV.out.tape, BV.out.output, BV.out.size, fun j hj _ => BV.out.block j hj⟩ (fun r e => by cases e), HBR.out.trans (BV.out.mono (by have := HBR.out.size; have := HBW.out.size; omega))⟩
    case measure => simp only [intOf]; omega
  ·obtain rfl : k = N := by omega
   gi_wp2
   go_end0
   refine ⟨⟨_, rfl⟩, .inl ⟨pre, O, ?_, HJP.out⟩⟩
   rw [HPR.out, List.take_of_length_le (by simp [HN.out])]
open Go.RowKit Go.Shelf
attribute [local go_sem] Oper.semAt_some
set_option maxHeartbeats 400000 in
theorem values_any (va : Option Addr) (N vc : Nat) (w : World) :
  Calls Try.prog 26 #[.slice va N vc] w fun e w' => e = .returned (.func (.func 46) #[] #[.pointer (some ⟨w.heap.size, 0, none⟩)]) ∧ w' = w.alloc (Obj.cells #[.slice va N vc] 25) := by
 go_enter Try.func26, Try.ntmps26
 go_wp2_with fail
 go_ret
 exact ⟨rfl, rfl⟩
set_option maxHeartbeats 2000000 in
set_option maxRecDepth 100000 in
theorem values_seq (n : Nat) (B : Nat) (bf fb fo fc N : Nat) (xs : List Sg) (w : World) (hB : B ≤ w.heap.size) (hN : xs.length = N) (hN2 : N ≤ 2000) (hxs : ∀ x ∈ xs, AtS B w x)
  (h1 : Bz w bf #[.slice (some ⟨fb, fo, none⟩) N fc] 25) (l1 : bf < B) (l4 : fb < B)
  (hc : ∀ i x, xs[i]? = some x → ShAt w fb (fo + i * 5) x.hd) :
  SeqS n 46 #[.pointer (some ⟨bf, 0, none⟩)] (xs.map Sg.ct) B w := by
 intro l J Jx O0 W hbW hJ hJx hlt hOw h0
 refine callsIn_of_wp Try.func46 rfl trivial ?_ rfl
 simp only [Try.ntmps46, List.size_toArray, List.length_cons, List.length_nil, Nat.reduceAdd, Nat.reduceSub, Array.replicate_succ, Array.replicate_zero, List.push_toArray, List.append_toArray, List.nil_append, List.cons_append]
 have c1 := (hbW.cell (p := ⟨bf, 0, none⟩) l1).trans (h1.cell 0)
 simp at c1
 have HX := kide hxs
 have HC := kide hc
 have HN := kide hN
 have HJ := kide hJ
 have HOW := kide hOw
 have HBW := kide hbW
 clear hxs hc h1 hN hJ hOw hbW hJx hlt
 gi_wp2
 gi_loopw [7] (fun i wr => ∃ (k : Nat) (pre : List Sg) (O : Nat → Prop), k ≤ N ∧ i = .int .i64 (k : Int) ∧ pre.map Sg.ct = (xs.take k).map Sg.ct ∧ J (pre, O) wr ∧ Below B W wr) (fun i _ => N - (intOf i).toNat)
 case atStart => exact ⟨0, [], O0, Nat.zero_le _, rfl, by simp, h0, Below.refl _ _⟩
 case round =>
  obtain ⟨k, pre, O, hk, rfl, hpre, hJp, hBr⟩ := hrel
  have HPR := kide hpre
  have HJP := kide hJp
  have HBR := kide hBr
  clear hpre hJp hBr
  by_cases hlt : k < N
  ·obtain ⟨x, hx⟩ : ∃ x, xs[k]? = some x := ⟨xs[k]'(by rw [HN.out]; exact hlt), List.getElem?_eq_getElem _⟩
   have HXA := kide (HX.out x (List.mem_of_getElem? hx))
   obtain ⟨p0, p1, p2, p3, p4⟩ := HC.out k x hx
   simp only [Sg.hd] at p0 p1 p2 p3 p4
   have hB9 := HBW.out.trans HBR.out
   replace p0 := (hB9.cell (p := ⟨fb, fo + k * 5, none⟩) l4).trans p0
   replace p1 := (hB9.cell (p := ⟨fb, fo + k * 5 + 1, none⟩) l4).trans p1
   replace p2 := (hB9.cell (p := ⟨fb, fo + k * 5 + 2, none⟩) l4).trans p2
   replace p3 := (hB9.cell (p := ⟨fb, fo + k * 5 + 3, none⟩) l4).trans p3
   replace p4 := (hB9.cell (p := ⟨fb, fo + k * 5 + 4, none⟩) l4).trans p4
   have hkN : (k : Int) < (N : Int) := by omega
   have hk0 : (k : Int) ≥ 0 := by omega
   have hkw : IntKind.i64.wrap ((k : Int) + 1) = (k : Int) + 1 := by rw [IntKind.wrap_i64]; omega
   have hbV : Below wr.heap.size wr (wr.alloc (Obj.cells #[.int .i64 x.ct.v, .int .i64 x.ct.lo, .int .i64 x.ct.wd, .int .i64 x.ct.bw, .slice x.a x.ct.ws.length x.c] 34)) := (Below.refl _ _).alloc (Nat.le_refl _) _
   have HTK : Hid ((xs.take (k + 1)).map Sg.ct = (xs.take k).map Sg.ct ++ [x.ct]) := by
    show _ = _
    rw [List.take_add_one, hx, Option.toList_some, List.map_append]
    rfl
   have hPP : (pre ++ [x]).map Sg.ct <+: xs.map Sg.ct := by
    rw [List.map_append, HPR.out, show [x].map Sg.ct = [x.ct] from rfl, ← HTK.out, List.map_take]
    exact List.take_prefix _ _
   have J2 := HJ.out _ _ (wr.alloc (Obj.cells #[.int .i64 x.ct.v, .int .i64 x.ct.lo, .int .i64 x.ct.wd, .int .i64 x.ct.bw, .slice x.a x.ct.ws.length x.c] 34)) none HJP.out ⟨hbV.os, hbV.tape, hbV.output, hbV.size, fun j hj _ => hbV.block j hj⟩ (fun r e => by cases e)
   obtain ⟨fn, tmps, assign, body, hy, hR⟩ := HOW.out pre O x wr _ HJP.out (Cz.below hbV) J2 ⟨hPP, (rd_low HXA.out.rd hB9 HXA.out.pl).later hbV, HXA.out.no, fun q hq => ⟨.inl (HXA.out.pl q hq), by have h9 := HXA.out.pl q hq; have := hbV.size; have := hB9.size; omega⟩⟩
   have HPP := kide hPP
   have BV := kide hbV
   have hBz := hB9.size
   clear hx hB9 J2 hPP hbV
   unfold sgV at hy
   gi_wp2
   refine ⟨(fun h => by cases h), hR.mono ?_⟩
   rintro e W3 (⟨rfl, hK3, -, -, O', hJ3, -⟩ | ⟨rfl, -, hJx3⟩)
   ·gi_wp2
    go_roundw
    case rel => exact ⟨k + 1, pre ++ [x], O', by omega, rfl, by rw [HTK.out, List.map_append, HPR.out]; rfl, hJ3, (HBR.out.trans (BV.out.mono (by have := HBR.out.size; have := HBW.out.size; omega))).trans hK3⟩
    case measure => simp only [intOf]; omega
   ·gi_wp2
    refine bodyPost_ret (results_none rfl _ _ _) rfl ?_
    exact ⟨⟨_, rfl⟩, .inr ⟨_, HPP.out, hJx3⟩⟩
  ·obtain rfl : k = N := by omega
   gi_wp2
   go_end0
   refine ⟨⟨_, rfl⟩, .inl ⟨pre, O, ?_, HJP.out⟩⟩
   rw [HPR.out, List.take_of_length_le (by simp [HN.out])]
set_option maxHeartbeats 1000000 in
theorem between_any (va : Option Addr) (N vc : Nat) (lo en : Int) (w : World) :
  Calls Try.prog 22 #[.slice va N vc, .int .i64 lo, .int .i64 en] w fun e w' => e = .returned (.func (.func 42) #[] #[.pointer (some ⟨w.heap.size, 0, none⟩), .pointer (some ⟨w.heap.size + 1, 0, none⟩), .pointer (some ⟨w.heap.size + 1 + 1, 0, none⟩)]) ∧
   w' = (((w.alloc (Obj.cells #[.slice va N vc] 25)).alloc (Obj.cells #[.int .i64 lo] 2)).alloc (Obj.cells #[.int .i64 en] 2)) := by
 go_enter Try.func22, Try.ntmps22
 go_wp2_with fail
 go_ret
 exact ⟨rfl, rfl⟩

end Go.Proofs.Ytffcklobignlfaa
