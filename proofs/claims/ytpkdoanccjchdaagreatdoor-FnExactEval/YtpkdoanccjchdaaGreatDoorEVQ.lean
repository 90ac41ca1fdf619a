/- What the law of Eval knows of the memory that it has made. -/
import Derived.Test.YtpkdoanccjchdaaGreatDoorEVP
import Derived.Test.YtpkdoanccjchdaaGreatDoorEVN
import Derived.Test.YtpkdoanccjchdaaGreatDoorEZT
namespace Go.Proofs.YtpkdoanccjchdaaGreatDoor
set_option linter.unusedVariables false
set_option linter.unusedSimpArgs false
open Go.RowKit

theorem share7 {F P : World → Nat → Option Addr → Nat → Nat → Nat → Nat → Prop} {G : Prop} (main : (∀ v b a c x y z, F v b a c x y z → P v b a c x y z) → G) (key : ∀ v b a c x y z, F v b a c x y z → P v b a c x y z) : G := main key

theorem Bz.out {u u' : World} {b B1 B2 : Nat} {cs : Array Value} {t : TypeId} (h : Bz u b cs t) (ho : Out B1 B2 u u') (hd : b < B1 ∨ B2 ≤ b) : Bz u' b cs t := by
  unfold Bz; rw [ho.2.2.2.2 b h.lt hd]; exact h

theorem rowIs_later {w w' : World} {g N : Nat} {t : TypeId} {f : Nat → Value} (h : w.rowIs g t N f) (hb : Below w.heap.size w w') : w'.rowIs g t N f := by
  obtain ⟨cc, hh, r⟩ := h
  exact World.rowIs.of_block ⟨cc, hh, r⟩ (hb.block g (lt_of_block hh))

theorem rowIs_out {w w' : World} {g N B1 B2 : Nat} {t : TypeId} {f : Nat → Value} (h : w.rowIs g t N f) (ho : Out B1 B2 w w') (hd : g < B1 ∨ B2 ≤ g) : w'.rowIs g t N f := by
  obtain ⟨cc, hh, r⟩ := h
  exact World.rowIs.of_block ⟨cc, hh, r⟩ (ho.2.2.2.2 g (lt_of_block hh) hd)

theorem rowIs_lt {w : World} {g N : Nat} {t : TypeId} {f : Nat → Value} (h : w.rowIs g t N f) : g < w.heap.size := by
  obtain ⟨cc, hh, -⟩ := h
  exact lt_of_block hh

theorem BwOwn.f {w : World} {G : Nat} {f : Nat → Value} {ms : List Bw} (h : ∀ j x, ms[j]? = some x → BwOwn w G f j x) : BwF f ms := fun i x hi => by
  obtain ⟨h0, h1, -⟩ := h i x hi
  exact ⟨⟨_, h0⟩, h1⟩

theorem BwOwn.wr {w : World} {G B : Nat} {f : Nat → Value} {ms : List Bw} (h : ∀ j x, ms[j]? = some x → BwOwn w G f j x) (hB : B ≤ G) : ∀ x ∈ ms, WrB w B w.heap.size x := fun x hx => by
  obtain ⟨i, hi, e⟩ := List.mem_iff_getElem.1 hx
  obtain ⟨-, -, g, h2, h3, h4⟩ := h i x (by rw [List.getElem?_eq_getElem hi, e])
  exact ⟨g, x.ws, h2, by omega, h4.lt, h4, rfl⟩

theorem sumB_ct {xs ys : List Bw} (h : xs.map Bw.ct = ys.map Bw.ct) : sumB xs = sumB ys := by
  have : (xs.map Bw.ct).map (fun x => x.2.length) = (ys.map Bw.ct).map (fun x => x.2.length) := by rw [h]
  simp only [List.map_map] at this
  unfold sumB
  have e : (fun x : Bw => x.ws.length) = (fun x => x.2.length) ∘ Bw.ct := rfl
  rw [e, this]

/-- What the law has made, till the arguments are marked. -/
structure Ce (w : World) (b : Option Addr) (n c2 : Nat) (X : Wd × Bool) (bw : Nat) (aw : Option Addr) (cw gx gv gt bx bg : Nat) (ag : Option Addr) (cg : Nat) (ds : List Dc) (mv : List Bw) (mt : List Tg) (fd fv ft : Nat → Value) (vn L1 H1 L2 H2 V1 V2 T1 T2 : Nat) (v : World) : Prop where
  t : Bz v w.heap.size #[.slice b n c2] 57
  w0 : Bz v bw #[.int .i64 X.1.1, .slice aw X.1.2.length cw] 61
  x2 : Bz v bx #[.slice (some ⟨gt, 0, none⟩) n n] 66
  g0 : Bz v bg #[.int .i64 X.1.1, .slice ag X.1.2.length cg] 61
  qd : v.rowIs gx 92 (ds.length * 2) fd
  rd : RdD v (some ⟨gx, 0, none⟩) ds
  qv : v.rowIs gv 61 (vn * 2) fv
  rv : RdW v (some ⟨gv, 0, none⟩) mv
  wv : ∀ x ∈ mv, WrB v V1 V2 x ∧ x.ws.length ≤ 1048576
  qt : v.rowIs gt 123 (n * 7) ft
  rt : RdT v (some ⟨gt, 0, none⟩) mt
  wt : ∀ x ∈ mt, WrT v T1 T2 x ∧ x.ct.ws.length ≤ 1048576 ∧ x.ct.ks.length ≤ 1048576
  nw : Nh v L1 H1 aw X.1.2
  ng : Nh v L2 H2 ag X.1.2
  bel : Below w.heap.size w v

theorem Ce.later {w : World} {b : Option Addr} {n c2 : Nat} {X : Wd × Bool} {bw : Nat} {aw : Option Addr} {cw gx gv gt bx bg : Nat} {ag : Option Addr} {cg : Nat} {ds : List Dc} {mv : List Bw} {mt : List Tg} {fd fv ft : Nat → Value} {vn L1 H1 L2 H2 V1 V2 T1 T2 : Nat} {v v' : World}
    (h : Ce w b n c2 X bw aw cw gx gv gt bx bg ag cg ds mv mt fd fv ft vn L1 H1 L2 H2 V1 V2 T1 T2 v) (hb : Below v.heap.size v v') : Ce w b n c2 X bw aw cw gx gv gt bx bg ag cg ds mv mt fd fv ft vn L1 H1 L2 H2 V1 V2 T1 T2 v' where
  t := h.t.later hb
  w0 := h.w0.later hb
  x2 := h.x2.later hb
  g0 := h.g0.later hb
  qd := rowIs_later h.qd hb
  rd := h.rd.later hb
  qv := rowIs_later h.qv hb
  rv := h.rv.later hb
  wv := fun x hx => ⟨(h.wv x hx).1.out (Out.below (B1 := V2) (B2 := V2) hb) (.inr (Nat.le_refl _)), (h.wv x hx).2⟩
  qt := rowIs_later h.qt hb
  rt := h.rt.later hb
  wt := fun x hx => ⟨(h.wt x hx).1.out (Out.below (B1 := T2) (B2 := T2) hb) (.inr (Nat.le_refl _)), (h.wt x hx).2⟩
  nw := h.nw.later hb
  ng := h.ng.later hb
  bel := h.bel.trans (hb.mono h.bel.size)

/-- What the law has made, behind the marks. -/
structure Cf (w : World) (b : Option Addr) (n c2 : Nat) (X : Wd × Bool) (bw : Nat) (aw : Option Addr) (cw bg : Nat) (ag : Option Addr) (cg L1 H1 L2 H2 : Nat) (ys : List Nat) (v : World) : Prop where
  t : Bz v w.heap.size #[.slice b n c2] 57
  w0 : Bz v bw #[.int .i64 X.1.1, .slice aw X.1.2.length cw] 61
  g0 : Bz v bg #[.int .i64 X.1.1, .slice ag X.1.2.length cg] 61
  nw : Nh v L1 H1 aw X.1.2
  ng : Nh v L2 H2 ag ys
  bel : Below w.heap.size w v

theorem Cf.later {w : World} {b : Option Addr} {n c2 : Nat} {X : Wd × Bool} {bw : Nat} {aw : Option Addr} {cw bg : Nat} {ag : Option Addr} {cg L1 H1 L2 H2 : Nat} {ys : List Nat} {v v' : World} (h : Cf w b n c2 X bw aw cw bg ag cg L1 H1 L2 H2 ys v) (hb : Below v.heap.size v v') : Cf w b n c2 X bw aw cw bg ag cg L1 H1 L2 H2 ys v' :=
  ⟨h.t.later hb, h.w0.later hb, h.g0.later hb, h.nw.later hb, h.ng.later hb, h.bel.trans (hb.mono h.bel.size)⟩

theorem Out.bel {w v v' : World} {B1 B2 : Nat} (h : Below w.heap.size w v) (ho : Out B1 B2 v v') (h1 : w.heap.size ≤ B1) : Below w.heap.size w v' :=
  ⟨ho.1.trans h.os, ho.2.1.trans h.tape, ho.2.2.1.trans h.output, Nat.le_trans h.size ho.2.2.2.1, fun k hk => (ho.2.2.2.2 k (Nat.lt_of_lt_of_le hk h.size) (.inl (by omega))).trans (h.block k hk)⟩

end Go.Proofs.YtpkdoanccjchdaaGreatDoor
