/- The program's site of a node of a right term: which rules fit. -/
import Derived.Test.YtdlmgndmfphneaaGreatDoorZGAF
import Derived.Test.YtdlmgndmfphneaaGreatDoorZGAE
import Derived.Test.YtdlmgndmfphneaaGreatDoorZGAD
namespace Go.Proofs.YtdlmgndmfphneaaGreatDoor
set_option linter.unusedVariables false
set_option linter.unusedSimpArgs false
open Go.RowKit

/-- A site, as it lies. -/
structure Si (u : World) (na xa ka : Option Addr) (xs : List Tg) (wd : List Int) (p : Nat) (n : Tc) : Prop where
  hn : RdT u na xs
  hx : RdI u xa wd
  hk : RdI u ka n.ks
  hp : (xs.map Tg.ct)[p]? = some n
  rn : Rn (xs.map Tg.ct) wd p n
  lw : wd.length = xs.length
  ww : ∀ x ∈ wd, 1 ≤ x ∧ x ≤ 4096
theorem Si.later {u v : World} {na xa ka : Option Addr} {xs : List Tg} {wd : List Int} {p : Nat} {n : Tc} (h : Si u na xa ka xs wd p n) (hb : Below u.heap.size u v) : Si v na xa ka xs wd p n :=
  ⟨h.hn.later hb, h.hx.later hb, h.hk.later hb, h.hp, h.rn, h.lw, h.ww⟩
theorem Si.lt {u : World} {na xa ka : Option Addr} {xs : List Tg} {wd : List Int} {p : Nat} {n : Tc} (h : Si u na xa ka xs wd p n) : p < xs.length := by
  have := (List.getElem?_eq_some_iff.1 h.hp).1
  simpa using this
/-- A width is at hand. -/
theorem Si.wid {u : World} {na xa ka : Option Addr} {xs : List Tg} {wd : List Int} {p : Nat} {n : Tc} (h : Si u na xa ka xs wd p n) {k : Nat} (hk : k < xs.length) : ∃ b o, xa = some ⟨b, o, none⟩ ∧ u.cell? ⟨b, o + k, none⟩ = some (.int .i64 (wd.getD k 0)) := by
  obtain ⟨-, -, h0 | ⟨b, o, e, hc⟩⟩ := h.hx
  · have := h.lw; rw [h0] at this; simp at this; omega
  · exact ⟨b, o, e, hc k (by rw [h.lw]; exact hk)⟩
/-- The Kids are at hand. -/
theorem Si.kid {u : World} {na xa ka : Option Addr} {xs : List Tg} {wd : List Int} {p : Nat} {n : Tc} (h : Si u na xa ka xs wd p n) {i : Nat} (hi : i < n.ks.length) : ∃ (b o j : Nat), ka = some ⟨b, o, none⟩ ∧ u.cell? ⟨b, o + i, none⟩ = some (.int .i64 (j : Int)) ∧ n.ks.getD i 0 = (j : Int) ∧ j < p := by
  obtain ⟨-, -, h0 | ⟨b, o, e, hc⟩⟩ := h.hk
  · rw [h0] at hi; simp at hi
  · have h1 := hc i hi
    have hm : n.ks.getD i 0 ∈ n.ks := by
      have : n.ks.getD i 0 = n.ks[i] := by simp [List.getD, hi]
      rw [this]; exact List.getElem_mem _
    have h2 := h.rn.kid _ hm
    obtain ⟨j, hj⟩ : ∃ j : Nat, n.ks.getD i 0 = (j : Int) := ⟨(n.ks.getD i 0).toNat, by omega⟩
    rw [hj] at h1 h2
    exact ⟨b, o, j, e, h1, hj, by omega⟩
/-- A node is at hand. -/
theorem Si.node {u : World} {na xa ka : Option Addr} {xs : List Tg} {wd : List Int} {p : Nat} {n : Tc} (h : Si u na xa ka xs wd p n) {k : Nat} (hk : k < xs.length) : ∃ (b o : Nat) (x : Tg), na = some ⟨b, o, none⟩ ∧ xs[k]? = some x ∧ TgAt u b (o + k * 7) x := by
  rcases h.hn.2 with h0 | ⟨b, o, e, hc⟩
  · rw [h0] at hk; simp at hk
  · have hx : xs[k]? = some (xs[k]'hk) := List.getElem?_eq_getElem hk
    exact ⟨b, o, _, e, hx, hc k _ hx⟩
theorem kO_at {xs : List Tg} {k : Nat} {x : Tg} (h : xs[k]? = some x) : kO (xs.map Tg.ct) (k : Int) = x.ct.op ∧ kK (xs.map Tg.ct) (k : Int) = x.ct.ks := by
  unfold kO kK
  rw [Int.toNat_natCast, List.getElem?_map, h]
  exact ⟨rfl, rfl⟩

section
variable (ns : List Tc) (wd : List Int) (n : Tc)
theorem fit1 : fitB ns wd n 1 = decide (n.op = 4 ∧ n.a = kW wd n - 1 ∧ n.b = 0) := rfl
theorem fit2 : fitB ns wd n 2 = decide (n.op = 4 ∧ kO ns (n.ks.getD 0 0) = 4) := rfl
theorem fit3 : fitB ns wd n 3 = decide ((n.op = 7 ∨ n.op = 8) ∧ Int.tmod n.a (kW wd n) = 0) := rfl
theorem fit4 : fitB ns wd n 4 = decide (n.op = 8 ∧ ¬ Int.tmod n.a (kW wd n) = 0) := rfl
theorem fit5 : fitB ns wd n 5 = decide ((n.op = 5 ∨ n.op = 6) ∧ n.a = 0) := rfl
theorem fit6 : fitB ns wd n 6 = decide (n.op = 5 ∧ 0 < n.a) := rfl
theorem fit7 : fitB ns wd n 7 = decide (n.op = 9 ∧ 1 < n.a) := rfl
theorem fit8 : fitB ns wd n 8 = decide (n.op = 9 ∧ n.a = 1) := rfl
theorem fit9 : fitB ns wd n 9 = (decide (n.op = 3) && n.ks.any (fun k => decide (kO ns k = 3))) := rfl
theorem fit10 : fitB ns wd n 10 = (decide (0 < n.ks.length) && n.ks.all (fun k => decide (kO ns k = 2))) := rfl
theorem fit11 : fitB ns wd n 11 = (decide (n.op = 4 ∧ kO ns (n.ks.getD 0 0) = 3) && innB wd n.b n.a (kK ns (n.ks.getD 0 0)).reverse 0) := rfl
end

/-- What a question is answered, and that nothing is written. -/
def RetY (u : World) (b : Bool) (e : Ending) (w' : World) : Prop := e = .returned (.bool b) ∧ Below u.heap.size u w'

set_option maxHeartbeats 1000000 in
set_option maxRecDepth 100000 in
theorem siteWidth_any (na xa wa ka : Option Addr) (N nc xc wn wc kn kc p : Nat) (op vr A B bw : Int) (ws : List Nat) (ks : List Int) (xs : List Tg) (wd : List Int) (w : World) (hS : Si w na xa ka xs wd p ⟨op, vr, A, B, bw, ws, ks⟩) (hN : xs.length = N) (hkn : ks.length = kn) :
    Calls Tryz.prog 90 #[.agg #[.slice na N nc, .slice xa N xc, .int .i64 (p : Int), .int .i64 op, .int .i64 vr, .int .i64 A, .int .i64 B, .int .i64 bw, .slice wa wn wc, .slice ka kn kc]] w fun e w' => e = .returned (.int .i64 (wd.getD p 0)) ∧ Below w.heap.size w w' := by
  have B0 : Hid (Below w.heap.size w (w.alloc (Obj.cells #[Value.slice na N nc, Value.slice xa N xc, Value.int .i64 (p : Int), Value.int .i64 op, Value.int .i64 vr, Value.int .i64 A, Value.int .i64 B, Value.int .i64 bw, Value.slice wa wn wc, Value.slice ka kn kc] 65))) := (Below.refl _ _).alloc (Nat.le_refl _) _
  have hpN : p < N := by rw [← hN]; exact hS.lt
  obtain ⟨xb, xo, rfl, c0⟩ := hS.wid (k := p) hS.lt
  have lb := block_lt_of_cell c0
  clear hS hN hkn
  generalize wd.getD p 0 = W at *
  have i0 : (p : Int) < (N : Int) := by omega
  go_enter Tryz.func90, Tryz.ntmps90
  go_wp2_with fail
  go_returns
  exact ⟨rfl, B0.out⟩

set_option maxHeartbeats 1000000 in
set_option maxRecDepth 100000 in
theorem siteKid_any (na xa wa ka : Option Addr) (N nc xc wn wc kn kc p : Nat) (op vr A B bw : Int) (ws : List Nat) (ks : List Int) (xs : List Tg) (wd : List Int) (w : World) (hS : Si w na xa ka xs wd p ⟨op, vr, A, B, bw, ws, ks⟩) (hN : xs.length = N) (hkn : ks.length = kn) (h1 : ks.length = 1) (x : Tg) (hx : xs[(ks.getD 0 0).toNat]? = some x) :
    Calls Tryz.prog 91 #[.agg #[.slice na N nc, .slice xa N xc, .int .i64 (p : Int), .int .i64 op, .int .i64 vr, .int .i64 A, .int .i64 B, .int .i64 bw, .slice wa wn wc, .slice ka kn kc]] w fun e w' => e = .returned (.agg #[.int .i64 x.ct.op, .int .i64 x.ct.vr, .int .i64 x.ct.a, .int .i64 x.ct.b, .int .i64 x.ct.bw, .slice x.wa x.ct.ws.length x.wc, .slice x.ka x.ct.ks.length x.kc]) ∧ Below w.heap.size w w' := by
  have hpN : p < N := by rw [← hN]; exact hS.lt
  rw [hkn] at h1
  subst h1
  obtain ⟨kb, ko, j, rfl, ck, ej, hj⟩ := hS.kid (i := 0) (by simp only []; omega)
  simp only [] at ej
  rw [ej, Int.toNat_natCast] at hx
  obtain ⟨nb, no, y, rfl, hy, hat⟩ := hS.node (k := j) (by have := hS.lt; omega)
  rw [hx] at hy
  cases hy
  obtain ⟨⟨p0, p1, p2, p3, p4, p5, p6⟩, -⟩ := hat
  obtain ⟨⟨xop, xvr, xA, xB, xbw, xws, xks⟩, xwa, xwc, xka, xkc⟩ := x
  simp only [Tg.hd] at p0 p1 p2 p3 p4 p5 p6 ⊢
  rw [Nat.add_zero] at ck
  have lk := block_lt_of_cell ck
  have lx := block_lt_of_cell p0
  have i0 : (j : Int) < (N : Int) := by omega
  generalize xws.length = xwn at *
  generalize xks.length = xkn at *
  clear hS hN hkn ej hx
  have B0 : Hid (Below w.heap.size w ((w.alloc (Obj.cells #[Value.slice (some ⟨nb, no, none⟩) N nc, Value.slice xa N xc, Value.int .i64 (p : Int), Value.int .i64 op, Value.int .i64 vr, Value.int .i64 A, Value.int .i64 B, Value.int .i64 bw, Value.slice wa wn wc, Value.slice (some ⟨kb, ko, none⟩) 1 kc] 65)).alloc (Obj.cells #[Value.int .i64 0, Value.int .i64 0, Value.int .i64 0, Value.int .i64 0, Value.int .i64 0, Value.slice none 0 0, Value.slice none 0 0] 63))) := ((Below.refl _ _).alloc (Nat.le_refl _) _).alloc (by simp) _
  have X0 : Hid (Bz ((w.alloc (Obj.cells #[Value.slice (some ⟨nb, no, none⟩) N nc, Value.slice xa N xc, Value.int .i64 (p : Int), Value.int .i64 op, Value.int .i64 vr, Value.int .i64 A, Value.int .i64 B, Value.int .i64 bw, Value.slice wa wn wc, Value.slice (some ⟨kb, ko, none⟩) 1 kc] 65)).alloc (Obj.cells #[Value.int .i64 0, Value.int .i64 0, Value.int .i64 0, Value.int .i64 0, Value.int .i64 0, Value.slice none 0 0, Value.slice none 0 0] 63)) w.heap.size #[Value.slice (some ⟨nb, no, none⟩) N nc, Value.slice xa N xc, Value.int .i64 (p : Int), Value.int .i64 op, Value.int .i64 vr, Value.int .i64 A, Value.int .i64 B, Value.int .i64 bw, Value.slice wa wn wc, Value.slice (some ⟨kb, ko, none⟩) 1 kc] 65) := (Bz.new w _ _).later ((Below.refl _ _).alloc (Nat.le_refl _) _)
  have X1 : Hid (Bz ((w.alloc (Obj.cells #[Value.slice (some ⟨nb, no, none⟩) N nc, Value.slice xa N xc, Value.int .i64 (p : Int), Value.int .i64 op, Value.int .i64 vr, Value.int .i64 A, Value.int .i64 B, Value.int .i64 bw, Value.slice wa wn wc, Value.slice (some ⟨kb, ko, none⟩) 1 kc] 65)).alloc (Obj.cells #[Value.int .i64 0, Value.int .i64 0, Value.int .i64 0, Value.int .i64 0, Value.int .i64 0, Value.slice none 0 0, Value.slice none 0 0] 63)) (w.heap.size + 1) #[Value.int .i64 0, Value.int .i64 0, Value.int .i64 0, Value.int .i64 0, Value.int .i64 0, Value.slice none 0 0, Value.slice none 0 0] 63) := by
    have h9 := Bz.new (w.alloc (Obj.cells #[Value.slice (some ⟨nb, no, none⟩) N nc, Value.slice xa N xc, Value.int .i64 (p : Int), Value.int .i64 op, Value.int .i64 vr, Value.int .i64 A, Value.int .i64 B, Value.int .i64 bw, Value.slice wa wn wc, Value.slice (some ⟨kb, ko, none⟩) 1 kc] 65)) #[Value.int .i64 0, Value.int .i64 0, Value.int .i64 0, Value.int .i64 0, Value.int .i64 0, Value.slice none 0 0, Value.slice none 0 0] 63
    rw [show (w.alloc (Obj.cells #[Value.slice (some ⟨nb, no, none⟩) N nc, Value.slice xa N xc, Value.int .i64 (p : Int), Value.int .i64 op, Value.int .i64 vr, Value.int .i64 A, Value.int .i64 B, Value.int .i64 bw, Value.slice wa wn wc, Value.slice (some ⟨kb, ko, none⟩) 1 kc] 65)).heap.size = w.heap.size + 1 by simp] at h9
    exact h9
  have hbw := B0.out
  replace ck := (kcell hbw kb ko lk).trans ck
  replace p0 := (kcell hbw nb (no + j * 7) lx).trans p0
  replace p1 := (kcell hbw nb (no + j * 7 + 1) lx).trans p1
  replace p2 := (kcell hbw nb (no + j * 7 + 2) lx).trans p2
  replace p3 := (kcell hbw nb (no + j * 7 + 3) lx).trans p3
  replace p4 := (kcell hbw nb (no + j * 7 + 4) lx).trans p4
  replace p5 := (kcell hbw nb (no + j * 7 + 5) lx).trans p5
  replace p6 := (kcell hbw nb (no + j * 7 + 6) lx).trans p6
  have hsz : w.heap.size ≤ ((w.alloc (Obj.cells #[Value.slice (some ⟨nb, no, none⟩) N nc, Value.slice xa N xc, Value.int .i64 (p : Int), Value.int .i64 op, Value.int .i64 vr, Value.int .i64 A, Value.int .i64 B, Value.int .i64 bw, Value.slice wa wn wc, Value.slice (some ⟨kb, ko, none⟩) 1 kc] 65)).alloc (Obj.cells #[Value.int .i64 0, Value.int .i64 0, Value.int .i64 0, Value.int .i64 0, Value.int .i64 0, Value.slice none 0 0, Value.slice none 0 0] 63)).heap.size := hbw.size
  replace lk := Nat.lt_of_lt_of_le lk hsz
  replace lx := Nat.lt_of_lt_of_le lx hsz
  clear hbw hsz
  go_enter Tryz.func91, Tryz.ntmps91
  go_wp2_with fail
  generalize ((w.alloc (Obj.cells #[Value.slice (some ⟨nb, no, none⟩) N nc, Value.slice xa N xc, Value.int .i64 (p : Int), Value.int .i64 op, Value.int .i64 vr, Value.int .i64 A, Value.int .i64 B, Value.int .i64 bw, Value.slice wa wn wc, Value.slice (some ⟨kb, ko, none⟩) 1 kc] 65)).alloc (Obj.cells #[Value.int .i64 0, Value.int .i64 0, Value.int .i64 0, Value.int .i64 0, Value.int .i64 0, Value.slice none 0 0, Value.slice none 0 0] 63)) = W0 at *
  obtain ⟨b1, hb1⟩ : ∃ b1, w.heap.size + 1 = b1 := ⟨_, rfl⟩
  have HL1 : Hid (w.heap.size ≤ b1) := by show _ ≤ _; omega
  rw [hb1] at X1
  try simp only [hb1]
  clear hb1
  obtain ⟨b0, hb0⟩ : ∃ b0, w.heap.size = b0 := ⟨_, rfl⟩
  rw [hb0] at X0
  have HB0 := kide hb0
  try simp only [hb0]
  clear hb0
  refine wp_region_x (SA := fun uu => uu.cell? ⟨b0, 0, none⟩ = some (Value.slice (some ⟨nb, no, none⟩) N nc) ∧ uu.cell? ⟨b0, 9, none⟩ = some (Value.slice (some ⟨kb, ko, none⟩) 1 kc) ∧ uu.cell? ⟨kb, ko, none⟩ = some (Value.int .i64 (j : Int)) ∧ uu.cell? ⟨nb, no + j * 7, none⟩ = some (Value.int .i64 xop) ∧ uu.cell? ⟨nb, no + j * 7 + 1, none⟩ = some (Value.int .i64 xvr) ∧ uu.cell? ⟨nb, no + j * 7 + 2, none⟩ = some (Value.int .i64 xA) ∧ uu.cell? ⟨nb, no + j * 7 + 3, none⟩ = some (Value.int .i64 xB) ∧ uu.cell? ⟨nb, no + j * 7 + 4, none⟩ = some (Value.int .i64 xbw) ∧ uu.cell? ⟨nb, no + j * 7 + 5, none⟩ = some (Value.slice xwa xwn xwc) ∧ uu.cell? ⟨nb, no + j * 7 + 6, none⟩ = some (Value.slice xka xkn xkc)) (SB := fun _ => True) (k := 9) (by kernel_rfl) ?_
  have hbd : Below W0.heap.size W0 W0.drew := (Below.refl _ _).drew
  have c0_0 : W0.drew.cell? ⟨b0, 0, none⟩ = some (Value.slice (some ⟨nb, no, none⟩) N nc) := (kcell hbd b0 (0) X0.out.lt).trans (X0.out.cell 0)
  have c1_0 : W0.drew.cell? ⟨b0, 9, none⟩ = some (Value.slice (some ⟨kb, ko, none⟩) 1 kc) := (kcell hbd b0 (9) X0.out.lt).trans (X0.out.cell 9)
  have c2_0 : W0.drew.cell? ⟨kb, ko, none⟩ = some (Value.int .i64 (j : Int)) := (kcell hbd kb (ko) lk).trans ck
  have c3_0 : W0.drew.cell? ⟨nb, no + j * 7, none⟩ = some (Value.int .i64 xop) := (kcell hbd nb (no + j * 7) lx).trans p0
  have c4_0 : W0.drew.cell? ⟨nb, no + j * 7 + 1, none⟩ = some (Value.int .i64 xvr) := (kcell hbd nb (no + j * 7 + 1) lx).trans p1
  have c5_0 : W0.drew.cell? ⟨nb, no + j * 7 + 2, none⟩ = some (Value.int .i64 xA) := (kcell hbd nb (no + j * 7 + 2) lx).trans p2
  have c6_0 : W0.drew.cell? ⟨nb, no + j * 7 + 3, none⟩ = some (Value.int .i64 xB) := (kcell hbd nb (no + j * 7 + 3) lx).trans p3
  have c7_0 : W0.drew.cell? ⟨nb, no + j * 7 + 4, none⟩ = some (Value.int .i64 xbw) := (kcell hbd nb (no + j * 7 + 4) lx).trans p4
  have c8_0 : W0.drew.cell? ⟨nb, no + j * 7 + 5, none⟩ = some (Value.slice xwa xwn xwc) := (kcell hbd nb (no + j * 7 + 5) lx).trans p5
  have c9_0 : W0.drew.cell? ⟨nb, no + j * 7 + 6, none⟩ = some (Value.slice xka xkn xkc) := (kcell hbd nb (no + j * 7 + 6) lx).trans p6
  have X1d := X1.out.later hbd
  have BM0 := kide B0.out.drew
  generalize W0.drew = m0 at *
  have hs0 : Hid ((fun uu => uu.cell? ⟨b0, 0, none⟩ = some (Value.slice (some ⟨nb, no, none⟩) N nc) ∧ uu.cell? ⟨b0, 9, none⟩ = some (Value.slice (some ⟨kb, ko, none⟩) 1 kc) ∧ uu.cell? ⟨kb, ko, none⟩ = some (Value.int .i64 (j : Int)) ∧ uu.cell? ⟨nb, no + j * 7, none⟩ = some (Value.int .i64 xop) ∧ uu.cell? ⟨nb, no + j * 7 + 1, none⟩ = some (Value.int .i64 xvr) ∧ uu.cell? ⟨nb, no + j * 7 + 2, none⟩ = some (Value.int .i64 xA) ∧ uu.cell? ⟨nb, no + j * 7 + 3, none⟩ = some (Value.int .i64 xB) ∧ uu.cell? ⟨nb, no + j * 7 + 4, none⟩ = some (Value.int .i64 xbw) ∧ uu.cell? ⟨nb, no + j * 7 + 5, none⟩ = some (Value.slice xwa xwn xwc) ∧ uu.cell? ⟨nb, no + j * 7 + 6, none⟩ = some (Value.slice xka xkn xkc)) m0) := ⟨c0_0, c1_0, c2_0, c3_0, c4_0, c5_0, c6_0, c7_0, c8_0, c9_0⟩
  try go_simp
  refine wpAnyX_both (T := fun _ => True) (i := 0) (v := Value.pointer (some ⟨b0, 0, none⟩)) rfl (by kernel_rfl) (by kernel_rfl) (by kernel_rfl) (fun _ _ _ h => by first | exact h | exact h.elim) (by decide) (fun _ _ => trivial) (fun _ _ => trivial) (Sx.before (by kernel_rfl) hs0.out) (Or.inl ⟨by rfl, fun uu hu => by go_simp⟩) ?_
  try go_simp
  refine wpAnyX_take (i := 1) (v := Value.slice (some ⟨nb, no, none⟩) N nc) rfl (by kernel_rfl) (by kernel_rfl) (by kernel_rfl) (fun _ _ _ h => by first | exact h | exact h.elim) (by decide) (by kernel_rfl) (by kernel_rfl) hs0.out (Or.inl ⟨by rfl, fun uu hu => by obtain ⟨e0, e1, e2, e3, e4, e5, e6, e7, e8, e9⟩ := hu; go_simp⟩) ?_
  try go_simp
  refine wpAnyX_both (T := fun _ => True) (i := 2) (v := Value.pointer (some ⟨b0, 3, none⟩)) rfl (by kernel_rfl) (by kernel_rfl) (by kernel_rfl) (fun _ _ _ h => by first | exact h | exact h.elim) (by decide) (fun _ _ => trivial) (fun _ _ => trivial) (Sx.before (by kernel_rfl) hs0.out) (Or.inl ⟨by rfl, fun uu hu => by go_simp⟩) ?_
  try go_simp
  refine wpAnyX_both (T := fun _ => True) (i := 3) (v := Value.pointer (some ⟨b0, 9, none⟩)) rfl (by kernel_rfl) (by kernel_rfl) (by kernel_rfl) (fun _ _ _ h => by first | exact h | exact h.elim) (by decide) (fun _ _ => trivial) (fun _ _ => trivial) (Sx.before (by kernel_rfl) hs0.out) (Or.inl ⟨by rfl, fun uu hu => by go_simp⟩) ?_
  try go_simp
  refine wpAnyX_take (i := 4) (v := Value.slice (some ⟨kb, ko, none⟩) 1 kc) rfl (by kernel_rfl) (by kernel_rfl) (by kernel_rfl) (fun _ _ _ h => by first | exact h | exact h.elim) (by decide) (by kernel_rfl) (by kernel_rfl) hs0.out (Or.inl ⟨by rfl, fun uu hu => by obtain ⟨e0, e1, e2, e3, e4, e5, e6, e7, e8, e9⟩ := hu; go_simp⟩) ?_
  try go_simp
  refine wpAnyX_both (T := fun _ => True) (i := 5) (v := Value.pointer (some ⟨kb, ko, none⟩)) rfl (by kernel_rfl) (by kernel_rfl) (by kernel_rfl) (fun _ _ _ h => by first | exact h | exact h.elim) (by decide) (fun _ _ => trivial) (fun _ _ => trivial) (Sx.before (by kernel_rfl) hs0.out) (Or.inl ⟨by rfl, fun uu hu => by go_simp⟩) ?_
  try go_simp
  refine wpAnyX_take (i := 6) (v := Value.int .i64 (j : Int)) rfl (by kernel_rfl) (by kernel_rfl) (by kernel_rfl) (fun _ _ _ h => by first | exact h | exact h.elim) (by decide) (by kernel_rfl) (by kernel_rfl) hs0.out (Or.inl ⟨by rfl, fun uu hu => by obtain ⟨e0, e1, e2, e3, e4, e5, e6, e7, e8, e9⟩ := hu; go_simp⟩) ?_
  try go_simp
  refine wpAnyX_both (T := fun _ => True) (i := 7) (v := Value.pointer (some ⟨nb, no + j * 7, none⟩)) rfl (by kernel_rfl) (by kernel_rfl) (by kernel_rfl) (fun _ _ _ h => by first | exact h | exact h.elim) (by decide) (fun _ _ => trivial) (fun _ _ => trivial) (Sx.before (by kernel_rfl) hs0.out) (Or.inl ⟨by rfl, fun uu hu => by go_simp⟩) ?_
  try go_simp
  refine wpAnyX_take (i := 8) (v := Value.agg #[Value.int .i64 xop, Value.int .i64 xvr, Value.int .i64 xA, Value.int .i64 xB, Value.int .i64 xbw, Value.slice xwa xwn xwc, Value.slice xka xkn xkc]) rfl (by kernel_rfl) (by kernel_rfl) (by kernel_rfl) (fun _ _ _ h => by first | exact h | exact h.elim) (by decide) (by kernel_rfl) (by kernel_rfl) hs0.out (Or.inl ⟨by rfl, fun uu hu => by obtain ⟨e0, e1, e2, e3, e4, e5, e6, e7, e8, e9⟩ := hu; go_simp⟩) ?_
  try go_simp
  refine wpAnyX_ready (rs := [9]) (by kernel_rfl) (by simp) (AllX.cons rfl (fun K hK => ?_) AllX.nil)
  have e0 := X1d.cell 0
  have e1 := X1d.cell 1
  have e2 := X1d.cell 2
  have e3 := X1d.cell 3
  have e4 := X1d.cell 4
  have e5 := X1d.cell 5
  have e6 := X1d.cell 6
  have f0 := X1d.froz 0
  have f1 := X1d.froz 1
  have f2 := X1d.froz 2
  have f3 := X1d.froz 3
  have f4 := X1d.froz 4
  have f5 := X1d.froz 5
  have f6 := X1d.froz 6
  simp at e0 e1 e2 e3 e4 e5 e6
  go_simp
  have HX1 : Hid (Bz (((((((m0.setCell ⟨b1, 0, none⟩ (Value.int .i64 xop)).setCell ⟨b1, 1, none⟩ (Value.int .i64 xvr)).setCell ⟨b1, 2, none⟩ (Value.int .i64 xA)).setCell ⟨b1, 3, none⟩ (Value.int .i64 xB)).setCell ⟨b1, 4, none⟩ (Value.int .i64 xbw)).setCell ⟨b1, 5, none⟩ (Value.slice xwa xwn xwc)).setCell ⟨b1, 6, none⟩ (Value.slice xka xkn xkc)) b1 #[Value.int .i64 xop, Value.int .i64 xvr, Value.int .i64 xA, Value.int .i64 xB, Value.int .i64 xbw, Value.slice xwa xwn xwc, Value.slice xka xkn xkc] 63) := (((((((X1d.set 0 (Value.int .i64 xop)).set 1 (Value.int .i64 xvr)).set 2 (Value.int .i64 xA)).set 3 (Value.int .i64 xB)).set 4 (Value.int .i64 xbw)).set 5 (Value.slice xwa xwn xwc)).set 6 (Value.slice xka xkn xkc))
  have HBL := kide ((((((((BM0.out.setCell (p := ⟨b1, 0, none⟩) HL1.out (Value.int .i64 xop)).setCell (p := ⟨b1, 1, none⟩) HL1.out (Value.int .i64 xvr)).setCell (p := ⟨b1, 2, none⟩) HL1.out (Value.int .i64 xA)).setCell (p := ⟨b1, 3, none⟩) HL1.out (Value.int .i64 xB)).setCell (p := ⟨b1, 4, none⟩) HL1.out (Value.int .i64 xbw)).setCell (p := ⟨b1, 5, none⟩) HL1.out (Value.slice xwa xwn xwc)).setCell (p := ⟨b1, 6, none⟩) HL1.out (Value.slice xka xkn xkc)))
  generalize (((((((m0.setCell ⟨b1, 0, none⟩ (Value.int .i64 xop)).setCell ⟨b1, 1, none⟩ (Value.int .i64 xvr)).setCell ⟨b1, 2, none⟩ (Value.int .i64 xA)).setCell ⟨b1, 3, none⟩ (Value.int .i64 xB)).setCell ⟨b1, 4, none⟩ (Value.int .i64 xbw)).setCell ⟨b1, 5, none⟩ (Value.slice xwa xwn xwc)).setCell ⟨b1, 6, none⟩ (Value.slice xka xkn xkc)) = m1 at *
  clear e0 f0 e1 f1 e2 f2 e3 f3 e4 f4 e5 f5 e6 f6
  refine hK _ _ (Sx.behind (by kernel_rfl) trivial) ?_
  clear hK K
  try go_simp
  refine wpAnyX_done (by kernel_rfl) ?_ _
  go_wp2_with fail
  have y0 := HX1.out.cell 0
  have y1 := HX1.out.cell 1
  have y2 := HX1.out.cell 2
  have y3 := HX1.out.cell 3
  have y4 := HX1.out.cell 4
  have y5 := HX1.out.cell 5
  have y6 := HX1.out.cell 6
  exact bodyPost_ret (v := .agg #[.int .i64 xop, .int .i64 xvr, .int .i64 xA, .int .i64 xB, .int .i64 xbw, .slice xwa xwn xwc, .slice xka xkn xkc]) (by simp [results, Tryz.results91, go_sem, y0, y1, y2, y3, y4, y5, y6]) rfl ⟨rfl, HBL.out⟩

set_option maxHeartbeats 1000000 in
set_option maxRecDepth 100000 in
theorem isZeroes_any (na xa wa ka : Option Addr) (N nc xc wn wc kn kc p : Nat) (op vr A B bw : Int) (ws : List Nat) (ks : List Int) (xs : List Tg) (wd : List Int) (w : World) (hS : Si w na xa ka xs wd p ⟨op, vr, A, B, bw, ws, ks⟩) (hN : xs.length = N) (hkn : ks.length = kn) :
    Calls Tryz.prog 58 #[.agg #[.slice na N nc, .slice xa N xc, .int .i64 (p : Int), .int .i64 op, .int .i64 vr, .int .i64 A, .int .i64 B, .int .i64 bw, .slice wa wn wc, .slice ka kn kc]] w (RetY w (fitB (xs.map Tg.ct) wd ⟨op, vr, A, B, bw, ws, ks⟩ 6)) := by
  have B0 : Hid (Below w.heap.size w (w.alloc (Obj.cells #[Value.slice na N nc, Value.slice xa N xc, Value.int .i64 (p : Int), Value.int .i64 op, Value.int .i64 vr, Value.int .i64 A, Value.int .i64 B, Value.int .i64 bw, Value.slice wa wn wc, Value.slice ka kn kc] 65))) := (Below.refl _ _).alloc (Nat.le_refl _) _
  have hpN : p < N := by rw [← hN]; exact hS.lt
  by_cases h5 : op = 5
  · subst h5
    by_cases hc : 0 < A
    · skip
      have hr : Hid (fitB (xs.map Tg.ct) wd ⟨5, vr, A, B, bw, ws, ks⟩ 6 = true) := by
        show _ = _
        rw [fit6]
        simp
        try omega
      rw [hr.out]
      clear hr hS hN hkn 
      go_enter Tryz.func58, Tryz.ntmps58
      go_wp2_with fail
      try (go_quiet (fail); go_wp2_with fail)
      go_returns
      exact ⟨by simp, by first | exact B0.out | exact below_drewN B0.out _⟩
    · skip
      have hr : Hid (fitB (xs.map Tg.ct) wd ⟨5, vr, A, B, bw, ws, ks⟩ 6 = false) := by
        show _ = _
        rw [fit6]
        simp
        try omega
      rw [hr.out]
      clear hr hS hN hkn 
      go_enter Tryz.func58, Tryz.ntmps58
      go_wp2_with fail
      try (go_quiet (fail); go_wp2_with fail)
      go_returns
      exact ⟨by simp, by first | exact B0.out | exact below_drewN B0.out _⟩
  · have n5 : (op == 5) = false := (by simpa using h5)
    have hr : Hid (fitB (xs.map Tg.ct) wd ⟨op, vr, A, B, bw, ws, ks⟩ 6 = false) := by
      show _ = _
      rw [fit6]
      simp
      try omega
    rw [hr.out]
    clear hr hS hN hkn h5
    go_enter Tryz.func58, Tryz.ntmps58
    go_wp2_with fail
    try (go_quiet (fail); go_wp2_with fail)
    go_returns
    exact ⟨by simp, by first | exact B0.out | exact below_drewN B0.out _⟩

set_option maxHeartbeats 1000000 in
set_option maxRecDepth 100000 in
theorem isManyTimes_any (na xa wa ka : Option Addr) (N nc xc wn wc kn kc p : Nat) (op vr A B bw : Int) (ws : List Nat) (ks : List Int) (xs : List Tg) (wd : List Int) (w : World) (hS : Si w na xa ka xs wd p ⟨op, vr, A, B, bw, ws, ks⟩) (hN : xs.length = N) (hkn : ks.length = kn) :
    Calls Tryz.prog 60 #[.agg #[.slice na N nc, .slice xa N xc, .int .i64 (p : Int), .int .i64 op, .int .i64 vr, .int .i64 A, .int .i64 B, .int .i64 bw, .slice wa wn wc, .slice ka kn kc]] w (RetY w (fitB (xs.map Tg.ct) wd ⟨op, vr, A, B, bw, ws, ks⟩ 7)) := by
  have B0 : Hid (Below w.heap.size w (w.alloc (Obj.cells #[Value.slice na N nc, Value.slice xa N xc, Value.int .i64 (p : Int), Value.int .i64 op, Value.int .i64 vr, Value.int .i64 A, Value.int .i64 B, Value.int .i64 bw, Value.slice wa wn wc, Value.slice ka kn kc] 65))) := (Below.refl _ _).alloc (Nat.le_refl _) _
  have hpN : p < N := by rw [← hN]; exact hS.lt
  by_cases h5 : op = 9
  · subst h5
    by_cases hc : 1 < A
    · skip
      have hr : Hid (fitB (xs.map Tg.ct) wd ⟨9, vr, A, B, bw, ws, ks⟩ 7 = true) := by
        show _ = _
        rw [fit7]
        simp
        try omega
      rw [hr.out]
      clear hr hS hN hkn 
      go_enter Tryz.func60, Tryz.ntmps60
      go_wp2_with fail
      try (go_quiet (fail); go_wp2_with fail)
      go_returns
      exact ⟨by simp, by first | exact B0.out | exact below_drewN B0.out _⟩
    · skip
      have hr : Hid (fitB (xs.map Tg.ct) wd ⟨9, vr, A, B, bw, ws, ks⟩ 7 = false) := by
        show _ = _
        rw [fit7]
        simp
        try omega
      rw [hr.out]
      clear hr hS hN hkn 
      go_enter Tryz.func60, Tryz.ntmps60
      go_wp2_with fail
      try (go_quiet (fail); go_wp2_with fail)
      go_returns
      exact ⟨by simp, by first | exact B0.out | exact below_drewN B0.out _⟩
  · have n9 : (op == 9) = false := (by simpa using h5)
    have hr : Hid (fitB (xs.map Tg.ct) wd ⟨op, vr, A, B, bw, ws, ks⟩ 7 = false) := by
      show _ = _
      rw [fit7]
      simp
      try omega
    rw [hr.out]
    clear hr hS hN hkn h5
    go_enter Tryz.func60, Tryz.ntmps60
    go_wp2_with fail
    try (go_quiet (fail); go_wp2_with fail)
    go_returns
    exact ⟨by simp, by first | exact B0.out | exact below_drewN B0.out _⟩

set_option maxHeartbeats 1000000 in
set_option maxRecDepth 100000 in
theorem isOnce_any (na xa wa ka : Option Addr) (N nc xc wn wc kn kc p : Nat) (op vr A B bw : Int) (ws : List Nat) (ks : List Int) (xs : List Tg) (wd : List Int) (w : World) (hS : Si w na xa ka xs wd p ⟨op, vr, A, B, bw, ws, ks⟩) (hN : xs.length = N) (hkn : ks.length = kn) :
    Calls Tryz.prog 62 #[.agg #[.slice na N nc, .slice xa N xc, .int .i64 (p : Int), .int .i64 op, .int .i64 vr, .int .i64 A, .int .i64 B, .int .i64 bw, .slice wa wn wc, .slice ka kn kc]] w (RetY w (fitB (xs.map Tg.ct) wd ⟨op, vr, A, B, bw, ws, ks⟩ 8)) := by
  have B0 : Hid (Below w.heap.size w (w.alloc (Obj.cells #[Value.slice na N nc, Value.slice xa N xc, Value.int .i64 (p : Int), Value.int .i64 op, Value.int .i64 vr, Value.int .i64 A, Value.int .i64 B, Value.int .i64 bw, Value.slice wa wn wc, Value.slice ka kn kc] 65))) := (Below.refl _ _).alloc (Nat.le_refl _) _
  have hpN : p < N := by rw [← hN]; exact hS.lt
  by_cases h5 : op = 9
  · subst h5
    by_cases hc : A = 1
    · subst hc
      have hr : Hid (fitB (xs.map Tg.ct) wd ⟨9, vr, 1, B, bw, ws, ks⟩ 8 = true) := by
        show _ = _
        rw [fit8]
        simp
        try omega
      rw [hr.out]
      clear hr hS hN hkn 
      go_enter Tryz.func62, Tryz.ntmps62
      go_wp2_with fail
      try (go_quiet (fail); go_wp2_with fail)
      go_returns
      exact ⟨by simp, by first | exact B0.out | exact below_drewN B0.out _⟩
    · have na : (A == 1) = false := by simpa using hc
      have hr : Hid (fitB (xs.map Tg.ct) wd ⟨9, vr, A, B, bw, ws, ks⟩ 8 = false) := by
        show _ = _
        rw [fit8]
        simp
        try omega
      rw [hr.out]
      clear hr hS hN hkn hc
      go_enter Tryz.func62, Tryz.ntmps62
      go_wp2_with fail
      try (go_quiet (fail); go_wp2_with fail)
      go_returns
      exact ⟨by simp, by first | exact B0.out | exact below_drewN B0.out _⟩
  · have n9 : (op == 9) = false := (by simpa using h5)
    have hr : Hid (fitB (xs.map Tg.ct) wd ⟨op, vr, A, B, bw, ws, ks⟩ 8 = false) := by
      show _ = _
      rw [fit8]
      simp
      try omega
    rw [hr.out]
    clear hr hS hN hkn h5
    go_enter Tryz.func62, Tryz.ntmps62
    go_wp2_with fail
    try (go_quiet (fail); go_wp2_with fail)
    go_returns
    exact ⟨by simp, by first | exact B0.out | exact below_drewN B0.out _⟩

set_option maxHeartbeats 1000000 in
set_option maxRecDepth 100000 in
theorem isNoWidening_any (na xa wa ka : Option Addr) (N nc xc wn wc kn kc p : Nat) (op vr A B bw : Int) (ws : List Nat) (ks : List Int) (xs : List Tg) (wd : List Int) (w : World) (hS : Si w na xa ka xs wd p ⟨op, vr, A, B, bw, ws, ks⟩) (hN : xs.length = N) (hkn : ks.length = kn) :
    Calls Tryz.prog 57 #[.agg #[.slice na N nc, .slice xa N xc, .int .i64 (p : Int), .int .i64 op, .int .i64 vr, .int .i64 A, .int .i64 B, .int .i64 bw, .slice wa wn wc, .slice ka kn kc]] w (RetY w (fitB (xs.map Tg.ct) wd ⟨op, vr, A, B, bw, ws, ks⟩ 5)) := by
  have B0 : Hid (Below w.heap.size w (w.alloc (Obj.cells #[Value.slice na N nc, Value.slice xa N xc, Value.int .i64 (p : Int), Value.int .i64 op, Value.int .i64 vr, Value.int .i64 A, Value.int .i64 B, Value.int .i64 bw, Value.slice wa wn wc, Value.slice ka kn kc] 65))) := (Below.refl _ _).alloc (Nat.le_refl _) _
  have hpN : p < N := by rw [← hN]; exact hS.lt
  by_cases h5 : op = 5
  · subst h5
    by_cases hc : A = 0
    · subst hc
      have hr : Hid (fitB (xs.map Tg.ct) wd ⟨5, vr, 0, B, bw, ws, ks⟩ 5 = true) := by
        show _ = _
        rw [fit5]
        simp
        try omega
      rw [hr.out]
      clear hr hS hN hkn 
      go_enter Tryz.func57, Tryz.ntmps57
      go_wp2_with fail
      try (go_quiet (fail); go_wp2_with fail)
      go_returns
      exact ⟨by simp, by first | exact B0.out | exact below_drewN B0.out _⟩
    · have na : (A == 0) = false := by simpa using hc
      have hr : Hid (fitB (xs.map Tg.ct) wd ⟨5, vr, A, B, bw, ws, ks⟩ 5 = false) := by
        show _ = _
        rw [fit5]
        simp
        try omega
      rw [hr.out]
      clear hr hS hN hkn hc
      go_enter Tryz.func57, Tryz.ntmps57
      go_wp2_with fail
      try (go_quiet (fail); go_wp2_with fail)
      go_returns
      exact ⟨by simp, by first | exact B0.out | exact below_drewN B0.out _⟩
  by_cases h6 : op = 6
  · subst h6
    by_cases hc : A = 0
    · subst hc
      have hr : Hid (fitB (xs.map Tg.ct) wd ⟨6, vr, 0, B, bw, ws, ks⟩ 5 = true) := by
        show _ = _
        rw [fit5]
        simp
        try omega
      rw [hr.out]
      clear hr hS hN hkn h5
      go_enter Tryz.func57, Tryz.ntmps57
      go_wp2_with fail
      try (go_quiet (fail); go_wp2_with fail)
      go_returns
      exact ⟨by simp, by first | exact B0.out | exact below_drewN B0.out _⟩
    · have na : (A == 0) = false := by simpa using hc
      have hr : Hid (fitB (xs.map Tg.ct) wd ⟨6, vr, A, B, bw, ws, ks⟩ 5 = false) := by
        show _ = _
        rw [fit5]
        simp
        try omega
      rw [hr.out]
      clear hr hS hN hkn hc h5
      go_enter Tryz.func57, Tryz.ntmps57
      go_wp2_with fail
      try (go_quiet (fail); go_wp2_with fail)
      go_returns
      exact ⟨by simp, by first | exact B0.out | exact below_drewN B0.out _⟩
  · have n5 : (op == 5) = false := (by simpa using h5); have n6 : (op == 6) = false := (by simpa using h6)
    have hr : Hid (fitB (xs.map Tg.ct) wd ⟨op, vr, A, B, bw, ws, ks⟩ 5 = false) := by
      show _ = _
      rw [fit5]
      simp
      try omega
    rw [hr.out]
    clear hr hS hN hkn h5 h6
    go_enter Tryz.func57, Tryz.ntmps57
    go_wp2_with fail
    try (go_quiet (fail); go_wp2_with fail)
    go_returns
    exact ⟨by simp, by first | exact B0.out | exact below_drewN B0.out _⟩

set_option maxHeartbeats 1000000 in
set_option maxRecDepth 100000 in
theorem isPartOfPart_any (na xa wa ka : Option Addr) (N nc xc wn wc kn kc p : Nat) (op vr A B bw : Int) (ws : List Nat) (ks : List Int) (xs : List Tg) (wd : List Int) (w : World) (hS : Si w na xa ka xs wd p ⟨op, vr, A, B, bw, ws, ks⟩) (hN : xs.length = N) (hkn : ks.length = kn) :
    Calls Tryz.prog 52 #[.agg #[.slice na N nc, .slice xa N xc, .int .i64 (p : Int), .int .i64 op, .int .i64 vr, .int .i64 A, .int .i64 B, .int .i64 bw, .slice wa wn wc, .slice ka kn kc]] w (RetY w (fitB (xs.map Tg.ct) wd ⟨op, vr, A, B, bw, ws, ks⟩ 2)) := by
  have B0 : Hid (Below w.heap.size w (w.alloc (Obj.cells #[Value.slice na N nc, Value.slice xa N xc, Value.int .i64 (p : Int), Value.int .i64 op, Value.int .i64 vr, Value.int .i64 A, Value.int .i64 B, Value.int .i64 bw, Value.slice wa wn wc, Value.slice ka kn kc] 65))) := (Below.refl _ _).alloc (Nat.le_refl _) _
  have hpN : p < N := by rw [← hN]; exact hS.lt
  by_cases h4 : op = 4
  · have h1 := hS.rn.one (by simp only []; omega)
    simp only [] at h1
    obtain ⟨kb, ko, j, ea, ck, ej, hj⟩ := hS.kid (i := 0) (by simp only []; omega)
    simp only [] at ej
    have hlt := hS.lt
    obtain ⟨x, hx⟩ : ∃ x, xs[j]? = some x := ⟨xs[j]'(by omega), List.getElem?_eq_getElem _⟩
    have HK := kide (fun u (hu : Below w.heap.size w u) => siteKid_any na xa wa ka N nc xc wn wc kn kc p op vr A B bw ws ks xs wd u (hS.later hu) hN hkn h1 x (by rw [ej, Int.toNat_natCast]; exact hx))
    have hr : Hid (fitB (xs.map Tg.ct) wd ⟨op, vr, A, B, bw, ws, ks⟩ 2 = (x.ct.op == 4)) := by
      show _ = _
      rw [fit2]
      simp only [ej, (kO_at hx).1, h4]
      rw [Bool.eq_iff_iff]
      simp
    rw [hr.out]
    obtain ⟨⟨xop, xvr, xA, xB, xbw, xws, xks⟩, xwa, xwc, xka, xkc⟩ := x
    simp only [] at HK ⊢
    clear hr hS hN hkn h1 ej hx hlt ck ea
    subst h4
    go_enter Tryz.func52, Tryz.ntmps52
    go_wp2_with fail
    refine Calls.mono (HK.out _ B0.out) ?_
    rintro e w1 ⟨rfl, hb⟩
    have B1 := kide (B0.out.trans (hb.mono B0.out.size))
    have hfd : ∀ u : World, (Instr.field 63 (.agg #[.int .i64 xop, .int .i64 xvr, .int .i64 xA, .int .i64 xB, .int .i64 xbw, .slice xwa xws.length xwc, .slice xka xks.length xkc]) 0).run Tryz.prog u = .ok (.int .i64 xop) u := fun _ => by kernel_rfl
    go_wp2_with fail
    go_returns
    exact ⟨rfl, B1.out⟩
  · have hr : Hid (fitB (xs.map Tg.ct) wd ⟨op, vr, A, B, bw, ws, ks⟩ 2 = false) := by
      show _ = _
      rw [fit2]
      simp [h4]
    rw [hr.out]
    have hn4 : (op == 4) = false := (by simpa using h4)
    clear hS hN hkn hr h4
    go_enter Tryz.func52, Tryz.ntmps52
    go_wp2_with fail
    try (go_quiet (fail); go_wp2_with fail)
    go_returns
    exact ⟨by simp, by first | exact B0.out | exact below_drewN B0.out _⟩

end Go.Proofs.YtdlmgndmfphneaaGreatDoor
