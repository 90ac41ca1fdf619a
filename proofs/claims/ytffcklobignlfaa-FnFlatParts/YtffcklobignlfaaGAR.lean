/- Several texts in one. -/
import Derived.Test.YtffcklobignlfaaGAQ
import Derived.Handy
import Derived.Test.YtffcklobignlfaaGAK
namespace Go.Proofs.Ytffcklobignlfaa
open Go.RowKit
set_option linter.unusedVariables false
set_option linter.unusedSimpArgs false
def nodK (op vr a b : Int) (ks : List Int) (ka : Option Addr) (kc : Nat) : Tg := ⟨⟨op, vr, a, b, 0, [], ks⟩, none, 0, ka, kc⟩
theorem Gr.bel {w0 u : World} {β : Nat} {a : Option Addr} {c : Nat} {bs : List Nat} {da : Option Addr} {ds : List Dc} {v : Value} {l : List Tg} (h : Gr w0 u β a c bs da ds v l) : ∃ a c, v = .slice a l.length c := h.tq.form
theorem nw_none (w : World) (B : Nat) : Nw w B none [] := .inl ⟨rfl, fun x e => by cases e⟩
theorem ni_none (w : World) (B : Nat) : Ni w B none [] := .inl ⟨rfl, fun x e => by cases e⟩
theorem ni_new (w : World) (B : Nat) (ks : List Int) (hB : B ≤ w.heap.size) : Ni (w.alloc (.cells (i64s ks) 2)) B (some ⟨w.heap.size, 0, none⟩) ks :=
 .inr ⟨w.heap.size, i64s ks, rfl, hB, heap_alloc_new _ _, fun i hi => i64s_get _ _ hi⟩
theorem nearI (l h : Int) (hl : 0 ≤ l) (hlh : l ≤ h) (hh : h ≤ 4194304) (β : Nat) (a : Option Addr) (c : Nat) (bs : List Nat) (w : World) (hr : Rr w β a c bs) :
  Calls Try.prog 32 #[.pointer (some ⟨β, 0, none⟩), .int .i64 l, .int .i64 h] w fun e w' => ∃ x : Nat, e = .returned (.int .i64 x) ∧ l ≤ (x : Int) ∧ (x : Int) ≤ h ∧ Rr w' β a c bs ∧ Dw β w w' := by
 obtain ⟨l', rfl⟩ := Int.eq_ofNat_of_zero_le hl
 obtain ⟨h', rfl⟩ := Int.eq_ofNat_of_zero_le (show 0 ≤ h by omega)
 refine (near_any l' h' (by omega) (by omega) β a c bs w hr).mono ?_
 rintro e w' ⟨x, rfl, h1, h2, h3, h4⟩
 exact ⟨x, rfl, by omega, by omega, h3, h4⟩
theorem bitsI (W : Int) (h1 : 1 ≤ W) (h2 : W ≤ 4096) (β : Nat) (a : Option Addr) (c : Nat) (bs : List Nat) (w : World) (hr : Rr w β a c bs) :
  Calls Try.prog 50 #[.pointer (some ⟨β, 0, none⟩), .int .i64 W] w fun e w' => ∃ a' n ws, e = .returned (.agg #[.int .i64 W, .slice a' n n]) ∧ ws.length = n ∧ n ≤ 64 ∧ (∀ x ∈ ws, x < 18446744073709551616) ∧ Nw w' w.heap.size a' ws ∧ (a' = none → n = 0) ∧ Rr w' β a c bs ∧ Dw β w w' := by
 obtain ⟨V, rfl⟩ := Int.eq_ofNat_of_zero_le (show 0 ≤ W by omega)
 refine (bits_any V (by omega) (by omega) β a c bs w hr).mono ?_
 rintro e w' ⟨a', l, hl, hx, rfl, hf, h3, h4⟩
 refine ⟨a', (pack l).length, pack l, rfl, rfl, ?_, pack_lt l, hf.nw, fun e => ?_, h3, h4⟩
 ·rw [pack_len, hl]
  omega
 ·rcases hf with ⟨h9, -⟩ | ⟨g, h9, -⟩
  ·rw [h9]; rfl
  ·rw [e] at h9; cases h9
theorem nw_far {w w' : World} {B β : Nat} {a : Option Addr} {xs : List Nat} (h : Nw w B a xs) (hd : Dw β w w') (hβ : β < B) : Nw w' B a xs := nw_blk h fun p hp => hd.block _ (nw_ltB h hp).2 (fun e => by cases e; have := (nw_ltB h hp).1; omega)
theorem ni_far {w w' : World} {B β : Nat} {a : Option Addr} {xs : List Int} (h : Ni w B a xs) (hd : Dw β w w') (hβ : β < B) : Ni w' B a xs := ni_blk h fun p hp => hd.block _ (ni_lt h hp).2 (fun e => by cases e; have := (ni_lt h hp).1; omega)
theorem nw_setT {w : World} {B b o : Nat} {a : Option Addr} {xs : List Nat} {cs : Array Value} (h : Nw w B a xs) (hb : Bz w b cs 88) (x : Value) : Nw (w.setCell ⟨b, o, none⟩ x) B a xs := nw_blk h fun p hp => heap_setCell_other _ _ _ _ (fun e9 => by
  obtain ⟨c2, k2⟩ := nw_typed h hp
  unfold Bz at hb
  simp only [] at e9
  rw [e9, hb] at k2
  cases k2)
theorem ni_setT {w : World} {B b o : Nat} {a : Option Addr} {xs : List Int} {cs : Array Value} (h : Ni w B a xs) (hb : Bz w b cs 88) (x : Value) : Ni (w.setCell ⟨b, o, none⟩ x) B a xs := ni_blk h fun p hp => heap_setCell_other _ _ _ _ (fun e9 => by
  obtain ⟨c2, k2⟩ := ni_typed h hp
  unfold Bz at hb
  simp only [] at e9
  rw [e9, hb] at k2
  cases k2)
theorem Gr.ownK {w0 u u' : World} {β k : Nat} {a : Option Addr} {c : Nat} {bs : List Nat} {da : Option Addr} {ds : List Dc} {v : Value} {l : List Tg} (h : Gr w0 u β a c bs da ds v l) {cs : Array Value} (hb : Bz u k cs 2) (hg : u.grownBy u' (some k)) (hk : w0.heap.size ≤ k) (hne : ∀ x ∈ l, ∀ p, x.ka = some p → p.block ≠ k) : Gr w0 u' β a c bs da ds v l := by
 have hr : ∀ j, some k = some j → w0.heap.size ≤ j := fun j e => by cases e; exact hk
 unfold Bz at hb
 refine ⟨h.r0, Rr.far h.r0 h.rr hg hr, h.dw.own hg hr, rdd_own h.dd hg hr (fun p hp => (h.hd p hp).2) h.dw.size, ⟨h.tq.row.move fun b hb' => hg.block b (h.tq.row.lt hb').2 (fun e => ?_), fun y hy => nw_blk (h.tq.wn y hy) fun p hp => hg.block _ (nw_ltB (h.tq.wn y hy) hp).2 (fun e => ?_), fun y hy => ni_blk (h.tq.kn y hy) fun p hp => hg.block _ (ni_lt (h.tq.kn y hy) hp).2 (fun e => hne y hy p hp (Option.some.inj e)), h.tq.sn⟩, h.hβ, h.hd⟩
 ·obtain ⟨c2, k2⟩ := h.tq.row.typed hb'
  rw [Option.some.inj e, hb] at k2
  cases k2
 ·obtain ⟨c2, k2⟩ := nw_typed (h.tq.wn y hy) hp
  rw [Option.some.inj e, hb] at k2
  cases k2
theorem Bz.grow {w w' : World} {b k : Nat} {cs : Array Value} {t : TypeId} (h : Bz w b cs t) (hg : w.grownBy w' (some k)) (hn : b ≠ k) : Bz w' b cs t := by
 unfold Bz
 rw [hg.block b h.lt (fun e => hn (Option.some.inj e))]
 exact h
theorem Bz.growV {w w' : World} {b : Nat} {cs : Array Value} {t : TypeId} {v : Value} (h : Bz w b cs t) (hg : w.grownBy w' v.ownBlock) (hn : v.ownBlock ≠ some b) : Bz w' b cs t := by
 unfold Bz
 rw [hg.block b h.lt (fun e => hn e.symm)]
 exact h
theorem ni_two {w : World} {B k : Nat} {p q : Int} (h : Bz w k #[.int .i64 p, .int .i64 q] 2) (hB : B ≤ k) : Ni w B (some ⟨k, 0, none⟩) [p, q] := .inr ⟨k, _, rfl, hB, h, fun i hi => by
 match i, hi with
 | 0, _ => rfl
 | 1, _ => rfl
 | i + 2, hi => simp at hi; omega⟩
def put7 (w : World) (b : Nat) (a0 a1 a2 a3 a4 a5 a6 : Value) : World := ((((((w.setCell ⟨b, 0, none⟩ a0).setCell ⟨b, 1, none⟩ a1).setCell ⟨b, 2, none⟩ a2).setCell ⟨b, 3, none⟩ a3).setCell ⟨b, 4, none⟩ a4).setCell ⟨b, 5, none⟩ a5).setCell ⟨b, 6, none⟩ a6
theorem put7_size (w : World) (b : Nat) (a0 a1 a2 a3 a4 a5 a6 : Value) : (put7 w b a0 a1 a2 a3 a4 a5 a6).heap.size = w.heap.size := by simp [put7]
theorem put7_box {w : World} {b : Nat} {x0 x1 x2 x3 x4 x5 x6 : Value} (h : Bz w b #[x0, x1, x2, x3, x4, x5, x6] 88) (a0 a1 a2 a3 a4 a5 a6 : Value) : Bz (put7 w b a0 a1 a2 a3 a4 a5 a6) b #[a0, a1, a2, a3, a4, a5, a6] 88 := by
 have b0 := h
 have b1 := b0.set 0 a0
 have b2 := b1.set 1 a1
 have b3 := b2.set 2 a2
 have b4 := b3.set 3 a3
 have b5 := b4.set 4 a4
 have b6 := b5.set 5 a5
 have b7 := b6.set 6 a6
 have e : (((((((#[x0, x1, x2, x3, x4, x5, x6] : Array Value).setIfInBounds 0 a0).setIfInBounds 1 a1).setIfInBounds 2 a2).setIfInBounds 3 a3).setIfInBounds 4 a4).setIfInBounds 5 a5).setIfInBounds 6 a6 = #[a0, a1, a2, a3, a4, a5, a6] := by simp [List.setIfInBounds_toArray]
 rw [e] at b7
 exact b7
theorem put7_bz {w : World} {b c : Nat} {cs : Array Value} {t : TypeId} (h : Bz w c cs t) (hn : c ≠ b) (a0 a1 a2 a3 a4 a5 a6 : Value) : Bz (put7 w b a0 a1 a2 a3 a4 a5 a6) c cs t := by
 have b0 := h
 have b1 := b0.other hn 0 a0
 have b2 := b1.other hn 1 a1
 have b3 := b2.other hn 2 a2
 have b4 := b3.other hn 3 a3
 have b5 := b4.other hn 4 a4
 have b6 := b5.other hn 5 a5
 have b7 := b6.other hn 6 a6
 exact b7
theorem put7_nw {w : World} {b B : Nat} {p : Option Addr} {ws : List Nat} {x0 x1 x2 x3 x4 x5 x6 : Value} (h : Nw w B p ws) (hb : Bz w b #[x0, x1, x2, x3, x4, x5, x6] 88) (a0 a1 a2 a3 a4 a5 a6 : Value) : Nw (put7 w b a0 a1 a2 a3 a4 a5 a6) B p ws := by
 have b0 := hb
 have n0 := h
 have n1 := nw_setT (o := 0) n0 b0 a0
 have b1 := b0.set 0 a0
 have n2 := nw_setT (o := 1) n1 b1 a1
 have b2 := b1.set 1 a1
 have n3 := nw_setT (o := 2) n2 b2 a2
 have b3 := b2.set 2 a2
 have n4 := nw_setT (o := 3) n3 b3 a3
 have b4 := b3.set 3 a3
 have n5 := nw_setT (o := 4) n4 b4 a4
 have b5 := b4.set 4 a4
 have n6 := nw_setT (o := 5) n5 b5 a5
 have b6 := b5.set 5 a5
 have n7 := nw_setT (o := 6) n6 b6 a6
 have b7 := b6.set 6 a6
 exact n7
theorem Gr.put7 {w0 u : World} {β b : Nat} {a : Option Addr} {c : Nat} {bs : List Nat} {da : Option Addr} {ds : List Dc} {v : Value} {l : List Tg} {x0 x1 x2 x3 x4 x5 x6 : Value} (h : Gr w0 u β a c bs da ds v l) (hb : Bz u b #[x0, x1, x2, x3, x4, x5, x6] 88) (hb0 : w0.heap.size ≤ b) (hv : v.ownBlock ≠ some b) (a0 a1 a2 a3 a4 a5 a6 : Value) : Gr w0 (Go.Proofs.Ytffcklobignlfaa.put7 u b a0 a1 a2 a3 a4 a5 a6) β a c bs da ds v l := by
 have b0 := hb
 have g0 := h
 have g1 := g0.cell (o := 0) b0 hb0 hv a0
 have b1 := b0.set 0 a0
 have g2 := g1.cell (o := 1) b1 hb0 hv a1
 have b2 := b1.set 1 a1
 have g3 := g2.cell (o := 2) b2 hb0 hv a2
 have b3 := b2.set 2 a2
 have g4 := g3.cell (o := 3) b3 hb0 hv a3
 have b4 := b3.set 3 a3
 have g5 := g4.cell (o := 4) b4 hb0 hv a4
 have b5 := b4.set 4 a4
 have g6 := g5.cell (o := 5) b5 hb0 hv a5
 have b6 := b5.set 5 a5
 have g7 := g6.cell (o := 6) b6 hb0 hv a6
 have b7 := b6.set 6 a6
 exact g7
set_option maxHeartbeats 1000000 in
theorem l3Fit_any (w0 w : World) (β : Nat) (a : Option Addr) (c : Nat) (bs : List Nat) (da : Option Addr) (ds : List Dc) (v : Value) (l : List Tg) (at' wide want : Int) (h : Gr w0 w β a c bs da ds v l) (hl : l.length ≤ 1000) (hat : in64 at') (hw1 : -5000 ≤ wide) (hw2 : wide ≤ 5000) (hv1 : -5000 ≤ want) (hv2 : want ≤ 5000) :
  Calls Try.prog 52 #[v, .int .i64 at', .int .i64 wide, .int .i64 want] w fun e w' => ∃ v' l', e = .returned v' ∧ Gr w0 w' β a c bs da ds v' l' ∧ (l' = l ∨ ∃ y, l' = l ++ [y] ∧ okQ y.ct) ∧ (∀ b cs, Bz w b cs 66 → Bz w' b cs 66) ∧ ∀ B, B ≤ w.heap.size → KoQ w B l → KoQ w' B l' := by
 have HG := kide h
 have hsz := h.size
 obtain ⟨av, cv, rfl⟩ := h.bel
 have HAT := kide hat
 clear h hat
 rcases Int.lt_trichotomy wide want with hc | hc | hc
 ·have hc2 : ¬ wide > want := by omega
  have Ba : Hid (Below w.heap.size w ((w.alloc (Obj.cells #[.int .i64 at'] 2)).alloc (Obj.cells #[.int .i64 5, .int .i64 0, .int .i64 (want - wide), .int .i64 0, .int .i64 0, .slice none 0 0, .slice (some ⟨w.heap.size, 0, none⟩) 1 1] 88))) := ((Below.refl _ _).alloc (Nat.le_refl _) _).alloc (by simp) _
  have G1 := kide (HG.out.later Ba.out)
  have HK : Hid (Ni ((w.alloc (Obj.cells #[.int .i64 at'] 2)).alloc (Obj.cells #[.int .i64 5, .int .i64 0, .int .i64 (want - wide), .int .i64 0, .int .i64 0, .slice none 0 0, .slice (some ⟨w.heap.size, 0, none⟩) 1 1] 88)) w0.heap.size (some ⟨w.heap.size, 0, none⟩) [at']) := (ni_new w w0.heap.size [at'] hsz).later ((Below.refl _ _).alloc (Nat.le_refl _) _)
  have hsz2 : w0.heap.size ≤ w.heap.size + 1 + 1 := by omega
  have hll : l.length ≤ 1048576 := by omega
  go_enter Try.func52, Try.ntmps52
  go_wp2_with (at_builtin; refine wpList_appT7 rfl _ _ rfl w0.heap.size _ l (nodK 5 0 (want - wide) 0 [at'] (some ⟨w.heap.size, 0, none⟩) 1) rfl G1.out.tq.row _ _ rfl (by simp [ThAt, Tg.hd, nodK]) hll (by simpa using hsz2) ?_)
  intro g cap w' ho hg _
  have G2 := kide (G1.out.push (nw_none _ _) HK.out ⟨fun _ => rfl, fun e => by cases e⟩ hg ho)
  have KB : Hid (∀ b cs, Bz w b cs 66 → Bz w' b cs 66) := fun b cs hb => G1.out.bz (hb.later Ba.out) hg
  have KK : Hid (∀ B, B ≤ w.heap.size → KoQ w B l → KoQ w' B (l ++ [(nodK 5 0 (want - wide) 0 [at'] (some ⟨w.heap.size, 0, none⟩) 1)])) := fun B hB hk => ((hk.later Ba.out).snoc (y := (nodK 5 0 (want - wide) 0 [at'] (some ⟨w.heap.size, 0, none⟩) 1)) ((OI.of_bz (Bz.new w (i64s [at']) 2) rfl hB (by simp)).later ((Below.refl _ _).alloc (Nat.le_refl _) _)) (fun x hx p q hp hq e => by cases hq; have := (oi_typ (hk.oi x hx) hp).2.2; simp only [] at e; omega)).grown G1.out.tq.row hg
  have hok : okQ (nodK 5 0 (want - wide) 0 [at'] (some ⟨w.heap.size, 0, none⟩) 1).ct := by
   have := HAT.out
   refine ⟨⟨?_, ?_, ?_, ?_, ?_, ?_, ?_, ?_, ?_⟩, ?_⟩ <;> simp [nodK, in64] <;> first | omega | (unfold in64 at this; omega)
  have HOK := kide hok
  clear ho hg hok
  go_wp2_with fail
  go_ret
  exact ⟨_, _, rfl, G2.out, .inr ⟨_, rfl, HOK.out⟩, KB.out, KK.out⟩
 ·subst hc
  have hc2 : ¬ wide > wide := by omega
  go_enter Try.func52, Try.ntmps52
  go_wp2_with fail
  go_ret
  first | exact ⟨_, l, rfl, HG.out, .inl rfl, fun _ _ h => h, fun _ _ h => h⟩ | exact ⟨_, rfl, l, HG.out, .inl rfl, fun _ _ h => h, fun _ _ h => h⟩ | exact ⟨l, _, rfl, HG.out, .inl rfl, fun _ _ h => h, fun _ _ h => h⟩
 ·have hc2 : wide > want := hc
  have Ba : Hid (Below w.heap.size w ((w.alloc (Obj.cells #[.int .i64 at'] 2)).alloc (Obj.cells #[.int .i64 4, .int .i64 0, .int .i64 (want - 1), .int .i64 0, .int .i64 0, .slice none 0 0, .slice (some ⟨w.heap.size, 0, none⟩) 1 1] 88))) := ((Below.refl _ _).alloc (Nat.le_refl _) _).alloc (by simp) _
  have G1 := kide (HG.out.later Ba.out)
  have HK : Hid (Ni ((w.alloc (Obj.cells #[.int .i64 at'] 2)).alloc (Obj.cells #[.int .i64 4, .int .i64 0, .int .i64 (want - 1), .int .i64 0, .int .i64 0, .slice none 0 0, .slice (some ⟨w.heap.size, 0, none⟩) 1 1] 88)) w0.heap.size (some ⟨w.heap.size, 0, none⟩) [at']) := (ni_new w w0.heap.size [at'] hsz).later ((Below.refl _ _).alloc (Nat.le_refl _) _)
  have hsz2 : w0.heap.size ≤ w.heap.size + 1 + 1 := by omega
  have hll : l.length ≤ 1048576 := by omega
  go_enter Try.func52, Try.ntmps52
  go_wp2_with (at_builtin; refine wpList_appT7 rfl _ _ rfl w0.heap.size _ l (nodK 4 0 (want - 1) 0 [at'] (some ⟨w.heap.size, 0, none⟩) 1) rfl G1.out.tq.row _ _ rfl (by simp [ThAt, Tg.hd, nodK]) hll (by simpa using hsz2) ?_)
  intro g cap w' ho hg _
  have G2 := kide (G1.out.push (nw_none _ _) HK.out ⟨fun _ => rfl, fun e => by cases e⟩ hg ho)
  have KB : Hid (∀ b cs, Bz w b cs 66 → Bz w' b cs 66) := fun b cs hb => G1.out.bz (hb.later Ba.out) hg
  have KK : Hid (∀ B, B ≤ w.heap.size → KoQ w B l → KoQ w' B (l ++ [(nodK 4 0 (want - 1) 0 [at'] (some ⟨w.heap.size, 0, none⟩) 1)])) := fun B hB hk => ((hk.later Ba.out).snoc (y := (nodK 4 0 (want - 1) 0 [at'] (some ⟨w.heap.size, 0, none⟩) 1)) ((OI.of_bz (Bz.new w (i64s [at']) 2) rfl hB (by simp)).later ((Below.refl _ _).alloc (Nat.le_refl _) _)) (fun x hx p q hp hq e => by cases hq; have := (oi_typ (hk.oi x hx) hp).2.2; simp only [] at e; omega)).grown G1.out.tq.row hg
  have hok : okQ (nodK 4 0 (want - 1) 0 [at'] (some ⟨w.heap.size, 0, none⟩) 1).ct := by
   have := HAT.out
   refine ⟨⟨?_, ?_, ?_, ?_, ?_, ?_, ?_, ?_, ?_⟩, ?_⟩ <;> simp [nodK, in64] <;> first | omega | (unfold in64 at this; omega)
  have HOK := kide hok
  clear ho hg hok
  go_wp2_with fail
  go_ret
  exact ⟨_, _, rfl, G2.out, .inr ⟨_, rfl, HOK.out⟩, KB.out, KK.out⟩

def RetPk (w : World) (X : List Tc) (e : Ending) (w' : World) : Prop := ∃ a c l, e = .returned (.slice a X.length c) ∧ RdT w' a l ∧ Sn l ∧ l.map Tg.ct = X ∧ Below w.heap.size w w' ∧ OT w' w.heap.size (.slice a X.length c) l ∧ (∀ x ∈ l, Nw w' w.heap.size x.wa x.ct.ws ∧ Ni w' w.heap.size x.ka x.ct.ks) ∧ KoQ w' w.heap.size l
set_option maxHeartbeats 4000000 in
set_option maxRecDepth 100000 in
theorem l3PruneK_any (a : Option Addr) (c n root : Nat) (xs : List Tg) (w : World) (hr : RdT w a xs) (hn : xs.length = n) (hs : Sn xs) (hk : Ahd (xs.map Tg.ct)) (hn8 : n ≤ 1000) (hroot : root < n) :
  Calls Try.prog 51 #[.slice a n c, .int .i64 (root : Int)] w (RetPk w (prR (xs.map Tg.ct) root)) := by
 have hmkb : ∀ (kl kc : IntKind) (w : World), (Instr.makeSlice 106 (.int kl (n : Int)) (.int kc (n : Int))).run Try.prog w = .ok (.slice (some ⟨w.heap.size, 0, none⟩) n n) (w.alloc (Obj.cells (bls (List.replicate n false)) 4)) := fun kl kc w => by rw [← bls_made]; exact run_make_row' (P := Try.prog) 106 4 (.bool false) 1 Try.underlying106 Try.infoBool rfl kl kc n (by omega) (by omega) w
 have hmki : ∀ (kl kc : IntKind) (w : World), (Instr.makeSlice 68 (.int kl (n : Int)) (.int kc (n : Int))).run Try.prog w = .ok (.slice (some ⟨w.heap.size, 0, none⟩) n n) (w.alloc (Obj.cells (i64s (List.replicate n 0)) 2)) := fun kl kc w => by rw [← i64s_made]; exact run_make_row' (P := Try.prog) 68 2 (.int .i64 0) 8 Try.underlying68 Try.infoI64 rfl kl kc n (by omega) (by omega) w
 have HOK := kide hr.ok
 obtain ⟨ns, hns⟩ : ∃ ns, xs.map Tg.ct = ns := ⟨_, rfl⟩
 rw [hns] at hk HOK ⊢
 have hnl : ns.length = n := by rw [← hns]; simpa using hn
 have HK := kide hk
 have HNS := kide hns
 have HNL := kide hnl
 have HN := kide hn
 have HS := kide hs
 have HR := kide hr
 have HN8 := kide hn8
 have hri : (root : Int) < (n : Int) := by omega
 have hc0 : (bls (List.replicate n false))[root]? = some (.bool false) := by rw [bls_get _ _ (by simpa using hroot)]; simp [List.getD, hroot]
 have HRT := kide hroot
 obtain ⟨UL, hUL⟩ : ∃ UL, usedL ns root = UL := ⟨_, rfl⟩
 have HUL0 := kide hUL
 have HUL : Hid (puDn ns n ((List.replicate n false).set root true) = UL) := by show _ = _; rw [← hUL, ← hnl]; rfl
 have M0 : Hid (PuM w ((w.alloc (Obj.cells (bls ((List.replicate n false).set root true)) 4)).alloc (Obj.cells (i64s (List.replicate n 0)) 2)) w.heap.size (w.heap.size + 1) n ((List.replicate n false).set root true) (List.replicate n 0)) := by
  have h1 := Bz.new w (bls ((List.replicate n false).set root true)) 4
  have hsz : (w.alloc (Obj.cells (bls ((List.replicate n false).set root true)) 4)).heap.size = w.heap.size + 1 := by simp
  have h2 := Bz.new (w.alloc (Obj.cells (bls ((List.replicate n false).set root true)) 4)) (i64s (List.replicate n 0)) 2
  rw [hsz] at h2
  have hb : Below w.heap.size w (w.alloc (Obj.cells (bls ((List.replicate n false).set root true)) 4)) := (Below.refl _ _).alloc (Nat.le_refl _) _
  exact ⟨h1.later ((Below.refl _ _).alloc (Nat.le_refl _) _), by simp, h2, by simp, hb.trans (((Below.refl _ _).alloc (Nat.le_refl _) _).mono hb.size), Nat.le_refl _, Nat.le_succ _⟩
 have e0 : wrap64 ((n : Int) - 1) = (n : Int) - 1 := by unfold wrap64; omega
 clear hr hn hs hk hns hnl hn8 hroot
 go_enter Try.func51, Try.ntmps51
 go_wp2_with fail
 rw [bls_set, e0]
 generalize (w.alloc (Obj.cells (bls ((List.replicate n false).set root true)) 4)).alloc (Obj.cells (i64s (List.replicate n 0)) 2) = W at *
 obtain ⟨U, hU⟩ : ∃ U, w.heap.size = U := ⟨_, rfl⟩
 rw [hU] at M0
 simp only [hU]
 have HU := kide hU
 clear hU e0 hmkb hmki hc0 hUL
 go_loopw [7] (fun q wr => ∃ (m : Nat) (us : List Bool), m ≤ n ∧ q = .int .i64 ((m : Int) - 1) ∧ puDn ns m us = UL ∧ PuM w wr U (U + 1) n us (List.replicate n 0)) (fun q _ => (intOf q + 1).toNat)
 case atStart => exact ⟨n, _, Nat.le_refl _, rfl, HUL.out, M0.out⟩
 case round =>
  clear M0 HUL
  obtain ⟨m, us, hm, rfl, hpu, hpm⟩ := hrel
  have HPM := kide hpm
  have HPU := kide hpu
  clear hpm hpu
  by_cases hm0 : m = 0
  ·subst hm0
   have hUS : us = UL := HPU.out
   subst hUS
   have q0 : ((0 : Nat) : Int) - 1 = -1 := rfl
   rw [q0]
   clear q0 hm hri HPU
   have hUL2 := HUL0
   have hbo : Below wr.heap.size wr (wr.alloc (Obj.cells #[] 88)) := (Below.refl _ _).alloc (Nat.le_refl _) _
   have hto := OI.of_bz (HPM.out.later hbo).nt (B := U) (n := n) (by simp) (by omega) (by have := HN8.out; omega)
   have hul := HPM.out.ul
   have hbl := HPM.out.bl
   have hlt1 := HPM.out.nt.lt
   have M0 : Hid (RpM w (wr.alloc (Obj.cells #[] 88)) U (wr.alloc (Obj.cells #[] 88)).heap.size (.slice (some ⟨wr.heap.size, 0, none⟩) 0 0) (.slice (some ⟨U + 1, 0, none⟩) n n) [] (pkTo ns us 0)) := by
    have hU2 := HU.out
    have e0 : pkTo ns us 0 = ([], List.replicate n 0) := by rw [pkTo, HNL.out]
    rw [e0]
    refine ⟨OT.empty wr U (by omega), by simp, fun x hx => by simp at hx, rfl, hto, hbl.trans (hbo.mono hbl.size), by omega, ?_, Nat.le_refl _, fun b hb => ?_, fun b hb => ?_⟩
    ·simp; omega
    ·cases hb; simp
    ·cases hb; simp; omega
   have FL0 := kide (HPM.out.later hbo).fl
   have HUSL := kide hul
   clear hbo hto hul hbl hlt1 HPM
   go_wp2_with fail
   generalize wr.alloc (Obj.cells #[] 88) = W2 at *
   go_loopw [9, 10] (fun o q wr => ∃ (k : Nat) (l : List Tg), k ≤ n ∧ q = .int .i64 (k : Int) ∧ RpM w wr U wr.heap.size o (.slice (some ⟨U + 1, 0, none⟩) n n) l (pkTo ns us k) ∧ Bz wr U (bls us) 4 ∧ KoQ wr U l) (fun _ q _ => n - (intOf q).toNat)
   case atStart => exact ⟨0, [], Nat.zero_le _, rfl, M0.out, FL0.out, KoQ.nil _ _⟩
   case round =>
    clear M0 FL0
    obtain ⟨k, l, hk, rfl, hm, hfl, hko⟩ := hrel
    have KO := kide hko
    have HM := kide hm
    have FL := kide hfl
    have HPL := kide (pkTo_len ns us k).1
    have HPL2 := kide (pkTo_len ns us k).2
    by_cases hlt : k < n
    ·have i0 : (k : Int) < (n : Int) := by omega
     obtain ⟨x, gx⟩ : ∃ x, xs[k]? = some x := ⟨xs[k]'(by rw [HN.out]; exact hlt), List.getElem?_eq_getElem _⟩
     have gn : ns[k]? = some x.ct := by rw [← HNS.out]; simp [gx]
     have HST := kide (pkTo_succ (used := us) gn)
     have c1 := hfl.cell k
     rw [bls_get _ _ (by rw [HUSL.out]; exact hlt)] at c1
     obtain ⟨bq, oq, rfl, hcq⟩ : ∃ b o, a = some ⟨b, o, none⟩ ∧ ∀ i y, xs[i]? = some y → TgAt w b (o + i * 7) y := by
      rcases HR.out.2 with h0 | h0
      ·rw [h0] at gx; simp at gx
      ·exact h0
     obtain ⟨⟨p0, p1, p2, p3, p4, p5, p6⟩, pw, pk, -⟩ := (hcq k x gx).later hm.bl
     simp only [Tg.hd] at p0 p1 p2 p3 p4 p5 p6
     obtain ⟨sw, sk⟩ := HS.out x (List.mem_of_getElem? gx)
     have HKK := kide (HK.out k _ gn)
     have HOX := kide (HOK.out _ (List.mem_of_getElem? gn))
     clear gx gn hcq hm hfl
     by_cases hu : us.getD k false = true
     ·have HS2 : Hid (pkTo ns us (k + 1) = ((pkTo ns us k).1 ++ [mvT (pkTo ns us k).2 x.ct], (pkTo ns us k).2.set k ((pkTo ns us k).1.length : Int))) := by show _ = _; rw [HST.out, pkStep, if_pos hu]
      rw [hu] at c1
      generalize pkTo ns us k = st at *
      obtain ⟨st1, to⟩ := st
      simp only [] at HPL HPL2 HS2
      have HTN : Hid (to.length = n) := by show _ = _; rw [HPL2.out, HNL.out]
      generalize x.ct = nd at *
      clear hu HST
      have HC := kide (l3CopyNodeK_any nd x.wa x.ka x.wc x.kc wr pw pk sw sk)
      clear pw pk sw sk
      go_wp2_with fail
      refine Calls.mono HC.out ?_
      rintro e w2 ⟨a1, c1, a2, c2, rfl, hnw, hni, hcap, hb2⟩
      have HCAP := kide hcap
      obtain ⟨N, hN⟩ : ∃ N, wr.heap.size = N := ⟨_, rfl⟩
      rw [hN] at hnw hni HM
      have M2 := kide (HM.out.later hb2)
      have K2 := kide (KO.out.later hb2)
      have FL2 := kide (Bz.later FL.out hb2)
      have hb3 : Below w2.heap.size w2 (w2.alloc (Obj.cells #[.int .i64 nd.op, .int .i64 nd.vr, .int .i64 nd.a, .int .i64 nd.b, .int .i64 nd.bw, .slice a1 nd.ws.length c1, .slice a2 nd.ks.length c2] 88)) := (Below.refl _ _).alloc (Nat.le_refl _) _
      have X3 := kide (Bz.new w2 #[.int .i64 nd.op, .int .i64 nd.vr, .int .i64 nd.a, .int .i64 nd.b, .int .i64 nd.bw, .slice a1 nd.ws.length c1, .slice a2 nd.ks.length c2] 88)
      have M3 := kide (M2.out.later hb3)
      have K3 := kide (K2.out.later hb3)
      have NW3 := kide (hnw.later hb3)
      have NI3 := kide (hni.later hb3)
      have FL3 := kide (Bz.later FL2.out hb3)
      clear hb2 hb3 hnw hni HM M2 KO K2 p0 p1 p2 p3 p4 p5 p6 HC hN hcap FL FL2
      go_wp2_with fail
      generalize w2.alloc (Obj.cells #[.int .i64 nd.op, .int .i64 nd.vr, .int .i64 nd.a, .int .i64 nd.b, .int .i64 nd.bw, .slice a1 nd.ws.length c1, .slice a2 nd.ks.length c2] 88) = w3 at *
      generalize w2.heap.size = ν at *
      obtain ⟨nk, hnk⟩ : ∃ nk, nd.ks.length = nk := ⟨_, rfl⟩
      rw [hnk] at X3 NI3
      simp only [hnk]
      have HNK := kide hnk
      have hnk2 : nk ≤ 1048576 := by rw [← hnk]; exact HOX.out.2.2.2.2.2.2.2.1
      obtain ⟨nw, hnw⟩ : ∃ nw, nd.ws.length = nw := ⟨_, rfl⟩
      rw [hnw] at X3
      simp only [hnw]
      have HNW := kide hnw
      clear hnk hnw
      go_loopw [12] (fun i wr => ∃ j : Nat, j ≤ nk ∧ i = .int .i64 (j : Int) ∧ RpM w wr U N u9 (.slice (some ⟨U + 1, 0, none⟩) n n) l (st1, to) ∧ Bz wr ν #[.int .i64 nd.op, .int .i64 nd.vr, .int .i64 nd.a, .int .i64 nd.b, .int .i64 nd.bw, .slice a1 nw c1, .slice a2 nk c2] 88 ∧ Nw wr N a1 nd.ws ∧ OI wr N (.slice a2 nk c2) (mvK to nd.ks j) ∧ Bz wr U (bls us) 4 ∧ KoQ wr U l) (fun i _ => nk - (intOf i).toNat)
      case atStart => exact ⟨0, Nat.zero_le _, rfl, M3.out, X3.out, NW3.out, by simpa [mvK] using NI3.out, FL3.out, K3.out⟩
      case round =>
       clear M3 X3 NW3 NI3 FL3 K3
       obtain ⟨j, hj, rfl, hm, hx, hw1, ho1, hFL, hko⟩ := hrel
       have KO := kide hko
       have HO1 := kide ho1
       have hi1 : Ni wr N a2 (mvK to nd.ks j) := by
        obtain ⟨aq, cq, eq9, h9⟩ := ho1.ni
        injection eq9 with e1 e2 e3
        subst e1
        exact h9
       have HM := kide hm
       have HX := kide hx
       have HW1 := kide hw1
       have HI1 := kide hi1
       have FL := kide hFL
       have z6 := hx.cell 6
       simp at z6
       clear hm hx hw1 hi1 hFL ho1 hko
       by_cases hjk : j < nk
       ·have hjl : j < nd.ks.length := by rw [HNK.out]; exact hjk
        obtain ⟨g, hg2, hNg⟩ : ∃ g, a2 = some ⟨g, 0, none⟩ ∧ N ≤ g := by
         rcases HI1.out with ⟨h1, -⟩ | ⟨g, cur, h1, h2, -⟩
         ·have h9 := congrArg List.length h1; rw [mvK_len, List.length_nil] at h9; omega
         ·exact ⟨g, h1, h2⟩
        subst hg2
        obtain ⟨q0, q1⟩ := HI1.out.cell (j := j) (by rw [mvK_len]; exact hjl)
        rw [mvK_get to nd.ks (Nat.le_refl j)] at q0
        have HPUT := kide (fun y => OI.set9 HO1.out (i := j) (by rw [mvK_len]; exact hjl) y)
        have HSTP := kide (mvK_step to nd.ks hjl)
        have hkid := HKK.out (nd.ks.getD j 0) (by
         have e : nd.ks.getD j 0 = nd.ks[j] := by simp [List.getD, hjl]
         rw [e]; exact List.getElem_mem _)
        generalize nd.ks.getD j 0 = kj at *
        obtain ⟨hk0, hk1⟩ := hkid
        obtain ⟨kn, rfl⟩ := Int.eq_ofNat_of_zero_le hk0
        have htn : to.length = n := HTN.out
        have t0 := OI.cell9 HM.out.ot (i := kn) (by simp only []; omega)
        simp only [] at t0
        have i2 : (kn : Int) < (n : Int) := by omega
        clear htn
        obtain ⟨y, hy⟩ : ∃ y, to.getD kn 0 = y := ⟨_, rfl⟩
        rw [hy] at t0
        rw [Int.toNat_natCast, hy] at HSTP
        have HP := kide (HPUT.out y)
        rw [HSTP.out] at HP
        have i1 : (j : Int) < (nk : Int) := by omega
        clear hy HPUT HSTP hk0
        obtain ⟨cur, hgz⟩ : ∃ cur, Bz wr g cur 2 := by
         rcases HI1.out with ⟨h1, -⟩ | ⟨g', cur, h1, h2, h3, -⟩
         ·have h9 := congrArg List.length h1; rw [mvK_len, List.length_nil] at h9; omega
         ·cases h1; exact ⟨cur, h3⟩
        have hne : ν ≠ g := by
         rintro rfl
         have h9 := HX.out
         unfold Bz at h9 hgz
         rw [hgz] at h9
         cases h9
        have hg9 := grow_setT (World.grownBy.refl wr (some g)) j (.int .i64 y)
        have KO4 := kide ((KO.out.out HM.out hg9 hNg).later ((Below.refl _ _).drew : Below (wr.setCell ⟨g, j, none⟩ (.int .i64 y)).heap.size (wr.setCell ⟨g, j, none⟩ (.int .i64 y)) (wr.setCell ⟨g, j, none⟩ (.int .i64 y)).drew))
        have HM4 := kide ((HM.out.out hg9 hNg).later ((Below.refl _ _).drew : Below (wr.setCell ⟨g, j, none⟩ (.int .i64 y)).heap.size (wr.setCell ⟨g, j, none⟩ (.int .i64 y)) (wr.setCell ⟨g, j, none⟩ (.int .i64 y)).drew))
        have HX4 := kide ((HX.out.other hne j (.int .i64 y)).later ((Below.refl _ _).drew : Below (wr.setCell ⟨g, j, none⟩ (.int .i64 y)).heap.size (wr.setCell ⟨g, j, none⟩ (.int .i64 y)) (wr.setCell ⟨g, j, none⟩ (.int .i64 y)).drew))
        have HW4 := kide ((nw_set HW1.out hgz (by decide) j (.int .i64 y)).later ((Below.refl _ _).drew : Below (wr.setCell ⟨g, j, none⟩ (.int .i64 y)).heap.size (wr.setCell ⟨g, j, none⟩ (.int .i64 y)) (wr.setCell ⟨g, j, none⟩ (.int .i64 y)).drew))
        have HI4 := kide (HP.out.later ((Below.refl _ _).drew : Below (wr.setCell ⟨g, j, none⟩ (.int .i64 y)).heap.size (wr.setCell ⟨g, j, none⟩ (.int .i64 y)) (wr.setCell ⟨g, j, none⟩ (.int .i64 y)).drew))
        have FL4 := kide (Bz.later (Bz.other FL.out (fun e => by have h9 := hgz; have h8 := FL.out; unfold Bz at h9 h8; rw [← e, h8] at h9; simp at h9) j (.int .i64 y)) ((Below.refl _ _).drew : Below (wr.setCell ⟨g, j, none⟩ (.int .i64 y)).heap.size (wr.setCell ⟨g, j, none⟩ (.int .i64 y)) (wr.setCell ⟨g, j, none⟩ (.int .i64 y)).drew))
        clear hg9 hgz hne
        go_wp2_with fail
        go_region
        go_wp2
        exact ⟨⟨j + 1, by omega, by go_num, HM4.out, HX4.out, HW4.out, HI4.out, FL4.out, KO4.out⟩, by simp [intOf]; omega⟩
       ·have hjn : j = nd.ks.length := by rw [HNK.out]; omega
        rw [hjn, mvK_all] at HI1 HO1
        obtain ⟨ks2, hks2⟩ : ∃ ks2, (nd.ks.map fun k => to.getD k.toNat 0) = ks2 := ⟨_, rfl⟩
        rw [hks2] at HI1 HO1
        have HMV : Hid (mvT to nd = ⟨nd.op, nd.vr, nd.a, nd.b, nd.bw, nd.ws, ks2⟩) := by show _ = _; rw [← hks2]; rfl
        have HK2 : Hid (ks2.length = nk) := by show _ = _; rw [← hks2, List.length_map, HNK.out]
        clear hks2 hjn hj
        have n0 := HX.out.cell 0
        have n1 := HX.out.cell 1
        have n2 := HX.out.cell 2
        have n3 := HX.out.cell 3
        have n4 := HX.out.cell 4
        have n5 := HX.out.cell 5
        have n6 := HX.out.cell 6
        simp at n0 n1 n2 n3 n4 n5 n6
        obtain ⟨va, vc, rfl⟩ := HM.out.row.form
        have HLL : Hid (l.length = st1.length) := by
         show _ = _
         have h9 := congrArg List.length HM.out.eq
         simpa using h9
        have hLk : l.length ≤ 1000 := by have h1 := HLL.out; have h2 := HPL.out; have h3 := HN8.out; omega
        obtain ⟨ln, hln⟩ : ∃ ln, l.length = ln := ⟨_, rfl⟩
        rw [hln] at HM hLk
        simp only [hln]
        have HLN := kide hln
        clear hln
        have t9 := OI.cell9 HM.out.ot (i := k) (by simp only []; have := HTN.out; omega)
        have t8 := OI.froz9 HM.out.ot k
        have OS := kide (OI.set9 HM.out.ot (i := k) (by simp only []; have := HTN.out; omega) (ln : Int))
        have MS := kide (HM.out.told (grow_setT (World.grownBy.refl wr (some (U + 1))) k (.int .i64 (ln : Int))) OS.out (.inl rfl))
        have hp1 : ∃ cur, Bz wr (U + 1) cur 2 := HM.out.ot.typed9 rfl
        obtain ⟨cur1, hp1⟩ := hp1
        have XS := kide (HX.out.other (fun e => by have h9 := hp1; have h8 := HX.out; unfold Bz at h9 h8; rw [← e, h8] at h9; simp at h9) k (.int .i64 (ln : Int)) (c := U + 1))
        have WS := kide (nw_set HW1.out hp1 (by decide) k (.int .i64 (ln : Int)))
        have IS : Hid (Ni (wr.setCell ⟨U + 1, k, none⟩ (.int .i64 (ln : Int))) N a2 ks2) := ni_blk HI1.out fun p hp => heap_setCell_other _ _ _ _ (fun e => by have h9 := (ni_lt HI1.out hp).1; have h8 := HM.out.tH (U + 1) rfl; simp only [] at e; omega)
        have hkN : Hid (∀ x ∈ l, ∀ p, x.ka = some p → p.block < N) := fun x hx p hp => (HM.out.nd x hx).kh p hp
        have KS := kide (KO.out.told HM.out (grow_setT (World.grownBy.refl wr (some (U + 1))) k (.int .i64 (ln : Int))))
        have OS1 : Hid (OI (wr.setCell ⟨U + 1, k, none⟩ (.int .i64 (ln : Int))) N (.slice a2 nk c2) ks2) := oi_blk HO1.out fun p hp => heap_setCell_other _ _ _ _ (fun e => by have h9 := (ni_lt HI1.out hp).1; have h8 := HM.out.tH (U + 1) rfl; simp only [] at e; omega)
        have FSq := kide (FL.out.other (fun e => by omega) k (.int .i64 (ln : Int)) (c := U + 1))
        have hN9 : N ≤ wr.heap.size := HM.out.hH
        have hbt : Below (wr.setCell ⟨U + 1, k, none⟩ (.int .i64 (ln : Int))).heap.size (wr.setCell ⟨U + 1, k, none⟩ (.int .i64 (ln : Int))) ((wr.setCell ⟨U + 1, k, none⟩ (.int .i64 (ln : Int))).alloc (Obj.cells #[.int .i64 nd.op, .int .i64 nd.vr, .int .i64 nd.a, .int .i64 nd.b, .int .i64 nd.bw, .slice a1 nw c1, .slice a2 nk c2] 88)) := (Below.refl _ _).alloc (Nat.le_refl _) _
        have MT := kide (MS.out.later hbt)
        have WT := kide (WS.out.later hbt)
        have IT := kide (IS.out.later hbt)
        have OT1 := kide (OS1.out.later hbt)
        have KT := kide (KS.out.later hbt)
        have FT := kide (FSq.out.later hbt)
        have XT := kide (Bz.new (wr.setCell ⟨U + 1, k, none⟩ (.int .i64 (ln : Int))) #[.int .i64 nd.op, .int .i64 nd.vr, .int .i64 nd.a, .int .i64 nd.b, .int .i64 nd.bw, .slice a1 nw c1, .slice a2 nk c2] 88)
        have HTA : Hid (ThAt ((wr.setCell ⟨U + 1, k, none⟩ (.int .i64 (ln : Int))).alloc (Obj.cells #[.int .i64 nd.op, .int .i64 nd.vr, .int .i64 nd.a, .int .i64 nd.b, .int .i64 nd.bw, .slice a1 nw c1, .slice a2 nk c2] 88)) (wr.setCell ⟨U + 1, k, none⟩ (.int .i64 (ln : Int))).heap.size 0 (Tg.hd ⟨⟨nd.op, nd.vr, nd.a, nd.b, nd.bw, nd.ws, ks2⟩, a1, c1, a2, c2⟩)) := by
         simp only [Tg.hd, ThAt, HNW.out, HK2.out]
         exact ⟨XT.out.cell 0, XT.out.cell 1, XT.out.cell 2, XT.out.cell 3, XT.out.cell 4, XT.out.cell 5, XT.out.cell 6⟩
        have hsS : (wr.setCell ⟨U + 1, k, none⟩ (.int .i64 (ln : Int))).heap.size = wr.heap.size := by simp
        rw [hsS] at HTA
        have HBN : Hid (U ≤ N) := HM.out.BH
        have HTN1 : Hid (U + 1 < N) := HM.out.tH (U + 1) rfl
        have HSZ := kide hsS
        have m0 : (wr.setCell ⟨U + 1, k, none⟩ (.int .i64 (ln : Int))).cell? ⟨ν, 0, none⟩ = some (Value.int .i64 nd.op) := XS.out.cell 0
        have m1 : (wr.setCell ⟨U + 1, k, none⟩ (.int .i64 (ln : Int))).cell? ⟨ν, 1, none⟩ = some (Value.int .i64 nd.vr) := XS.out.cell 1
        have m2 : (wr.setCell ⟨U + 1, k, none⟩ (.int .i64 (ln : Int))).cell? ⟨ν, 2, none⟩ = some (Value.int .i64 nd.a) := XS.out.cell 2
        have m3 : (wr.setCell ⟨U + 1, k, none⟩ (.int .i64 (ln : Int))).cell? ⟨ν, 3, none⟩ = some (Value.int .i64 nd.b) := XS.out.cell 3
        have m4 : (wr.setCell ⟨U + 1, k, none⟩ (.int .i64 (ln : Int))).cell? ⟨ν, 4, none⟩ = some (Value.int .i64 nd.bw) := XS.out.cell 4
        have m5 : (wr.setCell ⟨U + 1, k, none⟩ (.int .i64 (ln : Int))).cell? ⟨ν, 5, none⟩ = some (Value.slice a1 nw c1) := XS.out.cell 5
        have m6 : (wr.setCell ⟨U + 1, k, none⟩ (.int .i64 (ln : Int))).cell? ⟨ν, 6, none⟩ = some (Value.slice a2 nk c2) := XS.out.cell 6
        clear hbt hp1 XS OS hN9 hsS XT WS IS FSq
        go_wp2_with (at_builtin; refine wpList_appT7 rfl _ _ rfl U (.slice va ln vc) l ⟨⟨nd.op, nd.vr, nd.a, nd.b, nd.bw, nd.ws, ks2⟩, a1, c1, a2, c2⟩ (by first | rfl | simp [Act.eval]) MT.out.row wr.heap.size 1 (by first | rfl | simp [Act.eval]) HTA.out (by rw [HLN.out]; omega) (Nat.le_trans MT.out.BH MT.out.hH) ?_)
        intro g5 cap5 w5 ho5 hg5 hat5
        rw [HLN.out] at ho5 ⊢
        have MP := kide ((MT.out).push hg5 ho5 (WT.out.mono HBN.out) (IT.out.mono HBN.out) (fun p hp e => by have h9 := (ni_lt IT.out hp).1; have h8 := HTN1.out; have e9 := Option.some.inj e; simp only [] at e9; omega) HCAP.out)
        have KP9 : Hid (KoQ w5 U (l ++ [⟨⟨nd.op, nd.vr, nd.a, nd.b, nd.bw, nd.ws, ks2⟩, a1, c1, a2, c2⟩])) := by
         have ho9 : OI ((wr.setCell ⟨U + 1, k, none⟩ (.int .i64 (ln : Int))).alloc (Obj.cells #[.int .i64 nd.op, .int .i64 nd.vr, .int .i64 nd.a, .int .i64 nd.b, .int .i64 nd.bw, .slice a1 nw c1, .slice a2 nk c2] 88)) U (.slice a2 ks2.length c2) ks2 := by rw [HK2.out]; exact oi_low OT1.out HBN.out
         exact (KT.out.snoc ho9 (fun x hx p q hp hq e => by have h8 := hkN.out x hx p hp; have h9 := (ni_lt IT.out hq).1; omega)).grown MT.out.row hg5
        have FP : Hid (Bz w5 U (bls us) 4) := by
         show _ = _
         rw [hg5.block U FT.out.lt (fun e => by obtain ⟨c9, h9⟩ := MT.out.row.typed e.symm; have h8 := FT.out; unfold Bz at h8; rw [h8] at h9; simp at h9)]
         exact FT.out
        have HS3 : Hid (pkTo ns us (k + 1) = (st1 ++ [⟨nd.op, nd.vr, nd.a, nd.b, nd.bw, nd.ws, ks2⟩], to.set k (ln : Int))) := by show _ = _; rw [HS2.out, HMV.out, ← HLL.out, HLN.out]
        clear ho5 hg5 hat5 MT FT
        go_wp2_with fail
        have e9 : wrap64 ((k : Int) + 1) = ((k + 1 : Nat) : Int) := by unfold wrap64; have := HN8.out; omega
        try rw [e9]
        go_roundw
        case rel => exact ⟨k + 1, _, by omega, by first | rfl | go_num, by rw [HS3.out]; exact MP.out, FP.out, KP9.out⟩
        case measure => simp only [intOf, Int.toNat_natCast]; omega
     ·have hu' : us.getD k false = false := by simpa using hu
      rw [hu'] at c1
      have HS2 : Hid (pkTo ns us (k + 1) = pkTo ns us k) := by show _ = _; rw [HST.out, pkStep, if_neg hu]
      clear hu hu' pw pk p0 p1 p2 p3 p4 p5 p6 sw sk
      go_wp2_with fail
      have e9 : wrap64 ((k : Int) + 1) = ((k + 1 : Nat) : Int) := by unfold wrap64; have := HN8.out; omega
      try rw [e9]
      go_roundw
      case rel => exact ⟨k + 1, l, by omega, by first | rfl | go_num, by rw [HS2.out]; exact HM.out, FL.out, KO.out⟩
      case measure => simp only [intOf, Int.toNat_natCast]; omega
    ·have hkn : k = n := by omega
     subst hkn
     have HX1 : Hid (prR ns root = (pkTo ns us k).1) := by show _ = _; rw [prR, hUL2.out, HNL.out]
     have HP9 := kide (pk_ok (us := us) HOK.out (by rw [HNL.out]; have := HN8.out; omega) HK.out k (by rw [HNL.out]; exact Nat.le_refl _))
     obtain ⟨a9, c9, rfl, hr9⟩ := HM.out.rd (by have h1 := congrArg List.length HM.out.eq; rw [List.length_map] at h1; have h2 := HPL.out; have h3 := HN8.out; omega) HP9.out
     have R9 := kide hr9
     have EQ9 := kide HM.out.eq
     have SN9 := kide HM.out.sn
     have BL9 := kide HM.out.bl
     have XL9 : Hid ((prR ns root).length = l.length) := by show _ = _; rw [HX1.out, ← EQ9.out, List.length_map]
     have hUw : w.heap.size ≤ U := HM.out.bB
     have OT9 := kide (ot_low HM.out.row hUw)
     have KO9 := kide (KO.out.low hUw)
     have ND9 : Hid (∀ x ∈ l, Nw wr w.heap.size x.wa x.ct.ws ∧ Ni wr w.heap.size x.ka x.ct.ks) := fun x hx => ⟨nw_low (HM.out.nd x hx).wn hUw, ni_low (HM.out.nd x hx).kn hUw⟩
     clear hr9 hm hfl
     go_wp2_with fail
     go_ret
     refine ⟨a9, c9, l, ?_, R9.out, SN9.out, by rw [HX1.out]; exact EQ9.out, BL9.out, by rw [XL9.out]; exact OT9.out, ND9.out, KO9.out⟩
     rw [HX1.out, ← EQ9.out, List.length_map]
     rfl
  ·obtain ⟨j, rfl⟩ : ∃ j, m = j + 1 := ⟨m - 1, by omega⟩
   have ej : ((j + 1 : Nat) : Int) - 1 = (j : Int) := by omega
   rw [ej]
   obtain ⟨x, gx⟩ : ∃ x, xs[j]? = some x := ⟨xs[j]'(by rw [HN.out]; omega), List.getElem?_eq_getElem _⟩
   have gn : ns[j]? = some x.ct := by rw [← HNS.out]; simp [gx]
   have HST : Hid (puDn ns j (puStep ns us j) = UL) := HPU.out
   have HPS : Hid (puStep ns us j = if us.getD j false = true then setK us x.ct.ks else us) := by show _ = _; unfold puStep; rw [gn]
   have j0 : (j : Int) ≥ 0 := by omega
   have j1 : (j : Int) < (n : Int) := by omega
   have HKK := kide (HK.out j _ gn)
   have hkt := HOK.out _ (List.mem_of_getElem? gn)
   have hkl : x.ct.ks.length ≤ 1048576 := hkt.2.2.2.2.2.2.2.1
   have HTG : Hid (∀ u, Below w.heap.size w u → ∃ b o, a = some ⟨b, o, none⟩ ∧ TgAt u b (o + j * 7) x) := fun u hu => by
    obtain ⟨-, h | ⟨b, o, e, hc⟩⟩ := HR.out.later hu
    ·rw [h] at gx; simp at gx
    ·exact ⟨b, o, e, hc j x gx⟩
   obtain ⟨b3, o3, rfl, -⟩ := HTG.out w (Below.refl _ _)
   have HTA : Hid (∀ u, Below w.heap.size w u → TgAt u b3 (o3 + j * 7) x) := fun u hu => by
    obtain ⟨b, o, e, h⟩ := HTG.out u hu
    cases e
    exact h
   have hmw : wrap64 ((j : Int) - 1) = (j : Int) - 1 := by unfold wrap64; have := HN8.out; omega
   clear HTG hkt
   obtain ⟨K, hK⟩ : ∃ K, x.ct.ks.length = K := ⟨_, rfl⟩
   have HKL := kide hK
   rw [hK] at hkl
   clear hK gx gn
   by_cases hu : us.getD j false = true
   ·rw [if_pos hu] at HPS
    have HUJ : Hid (∀ t, (setK us (x.ct.ks.take t)).getD j false = true) := fun t => (setK_get _ us j (by rw [HPM.out.ul]; omega)).2 (.inl hu)
    clear hu
    go_wp2_with fail
    go_loopw [8] (fun q wr => ∃ t : Nat, t ≤ K ∧ q = .int .i64 (t : Int) ∧ PuM w wr U (U + 1) n (setK us (x.ct.ks.take t)) (List.replicate n 0)) (fun q _ => K - (intOf q).toNat)
    case atStart => exact ⟨0, Nat.zero_le _, rfl, by simpa [setK] using HPM.out⟩
    case round =>
     clear HPM
     obtain ⟨t, ht, rfl, hpm⟩ := hrel
     have HPM := kide hpm
     have c1 := (hpm.cell (j := j) (by omega)).1
     rw [HUJ.out t] at c1
     obtain ⟨⟨-, -, -, -, -, -, p6⟩, -, pk, -⟩ := HTA.out wr hpm.bl
     simp only [Tg.hd] at p6
     rw [HKL.out] at p6
     clear hpm
     by_cases htk : t < K
     ·have t0 : (t : Int) < (K : Int) := by omega
      obtain ⟨k, gk⟩ : ∃ k, x.ct.ks[t]? = some k := ⟨x.ct.ks[t]'(by rw [HKL.out]; exact htk), List.getElem?_eq_getElem _⟩
      obtain ⟨k0, k1⟩ := HKK.out k (List.mem_of_getElem? gk)
      have HSE := kide (setK_take (us := us) gk)
      obtain ⟨kb, ko, ek, hkc⟩ : ∃ kb ko, x.ka = some ⟨kb, ko, none⟩ ∧ wr.cell? ⟨kb, ko + t, none⟩ = some (.int .i64 k) := by
       obtain ⟨-, -, h | ⟨kb, ko, e, hc⟩⟩ := pk
       ·rw [h] at gk; simp at gk
       ·refine ⟨kb, ko, e, ?_⟩
        have h9 := hc t (by rw [HKL.out]; exact htk)
        rwa [show x.ct.ks.getD t 0 = k by simp [List.getD, gk]] at h9
      obtain ⟨kn, rfl⟩ := Int.eq_ofNat_of_zero_le k0
      rw [ek] at p6
      obtain ⟨d1, d2⟩ := HPM.out.cell (j := kn) (by omega)
      have k2 : (kn : Int) < (n : Int) := by omega
      have HMK := kide (HPM.out.mark kn)
      rw [Int.toNat_natCast] at HSE
      rw [← HSE.out] at HMK
      clear pk gk HPM ek
      go_wp2_with fail
      go_roundw
      case rel => exact ⟨t + 1, by omega, by go_num, HMK.out⟩
      case measure => simp [intOf]; omega
     ·have htK : x.ct.ks.take t = x.ct.ks := List.take_of_length_le (by rw [HKL.out]; omega)
      rw [htK, ← HPS.out] at HPM
      have t0 : ¬ (t : Int) < (K : Int) := by omega
      clear pk
      go_wp2_with fail
      rw [hmw]
      go_roundw
      case rel => exact ⟨j, _, by omega, rfl, HST.out, HPM.out⟩
      case measure => simp only [intOf]; omega
   ·have hu' : us.getD j false = false := by simpa using hu
    rw [if_neg hu] at HPS
    rw [HPS.out] at HST
    have c1 := (HPM.out.cell (j := j) (by omega)).1
    rw [hu'] at c1
    obtain ⟨⟨-, -, -, -, -, -, p6⟩, -, pk, -⟩ := HTA.out wr HPM.out.bl
    simp only [Tg.hd] at p6
    clear hu hu' pk
    go_wp2_with fail
    obtain ⟨wo, hwo⟩ : ∃ wo, wo = wr := ⟨_, rfl⟩
    subst hwo
    go_loopw [8] (fun q wr => q = .int .i64 0 ∧ wr = wo) (fun _ _ => 0)
    case atStart => exact ⟨rfl, rfl⟩
    case round =>
     obtain ⟨rfl, rfl⟩ := hrel
     go_wp2_with fail
     rw [hmw]
     go_roundw
     case rel => exact ⟨j, _, by omega, rfl, HST.out, HPM.out⟩
     case measure => simp only [intOf]; omega

theorem Bz.far {w w' : World} {b β : Nat} {cs : Array Value} {t : TypeId} (h : Bz w b cs t) (hd : Dw β w w') (hn : b ≠ β) : Bz w' b cs t := by
 unfold Bz
 rw [hd.block b h.lt (fun e => by cases e; exact hn rfl)]
 exact h
theorem KoQ.cellT {w : World} {B b o : Nat} {l : List Tg} {cs : Array Value} (h : KoQ w B l) (hb : Bz w b cs 66) (x : Value) : KoQ (w.setCell ⟨b, o, none⟩ x) B l := h.kept fun k cur hc => heap_setCell_other _ _ _ _ (fun e => by
 unfold Bz at hb
 simp only [] at e
 rw [e, hb] at hc
 cases hc)
theorem loop_cut {P : Program} {k : Nat} {cd : Code} {Q : Exit → Act → World → Prop} {a : Act} {w : World} (R : Act → World → Prop) (h1 : cd.wp P (fun e a w => e = .exit k ∧ R a w) a w) (h2 : ∀ a w, R a w → Q (.exit k) a w) : cd.wp P Q a w :=
 Code.wp_mono (fun e a w ⟨he, hr⟩ => by subst he; exact h2 a w hr) h1
theorem code_cut {P : Program} {cd : Code} {Q : Exit → Act → World → Prop} {a : Act} {w : World} (R : Act → World → Prop) (h1 : cd.wp P (fun e a w => e = .normal ∧ R a w) a w) (h2 : ∀ a w, R a w → Q .normal a w) : cd.wp P Q a w :=
 Code.wp_mono (fun e a w ⟨he, hr⟩ => by subst he; exact h2 a w hr) h1
theorem wid_bounds (ds : List Dc) (ns : List Tc) : -1 ≤ widR ds ns ∧ widR ds ns ≤ 4096 := by
 unfold widR
 split
 ·omega
 ·rename_i h
  obtain ⟨-, hb⟩ := widthsR_bounds ds ns
  have hl : (widthsR ds ns).length - 1 < (widthsR ds ns).length := by omega
  have h9 := hb _ (List.getElem_mem hl)
  simp only [List.getD, List.getElem?_eq_getElem hl, Option.getD_some]
  omega
theorem setK_true {j : Nat} : ∀ (ks : List Int) (us : List Bool), us.getD j false = true → (setK us ks).getD j false = true
 | [], us, h => h
 | k :: t, us, h => setK_true t _ (by
  by_cases e : k.toNat = j
  ·have hl : j < us.length := by
    rcases Nat.lt_or_ge j us.length with h9 | h9
    ·exact h9
    ·simp [List.getD, List.getElem?_eq_none h9] at h
   simp [List.getD, e, hl]
  ·simp only [List.getD] at h ⊢
   rw [List.getElem?_set_ne e]
   exact h)
theorem puDn_true {ns : List Tc} {j : Nat} : ∀ (m : Nat) (us : List Bool), us.getD j false = true → (puDn ns m us).getD j false = true
 | 0, us, h => h
 | m + 1, us, h => by
  unfold puDn
  refine puDn_true m _ ?_
  unfold puStep
  split
  ·split
   ·exact setK_true _ _ h
   ·exact h
  ·exact h
theorem pkTo_pos {ns : List Tc} {us : List Bool} {j : Nat} (hj : us.getD j false = true) (hl : j < ns.length) : ∀ m, j < m → m ≤ ns.length → 1 ≤ (pkTo ns us m).1.length
 | 0, h, _ => by omega
 | m + 1, h, h2 => by
  rw [pkTo_succ (List.getElem?_eq_getElem (show m < ns.length by omega))]
  unfold pkStep
  by_cases e : j = m
  ·subst e
   rw [if_pos hj]
   simp
  ·have := pkTo_pos hj hl m (by omega) (by omega)
   split
   ·simp
   ·exact this
theorem prR_pos {ns : List Tc} {root : Nat} (h : root < ns.length) : 1 ≤ (prR ns root).length ∧ (prR ns root).length ≤ ns.length := by
 refine ⟨pkTo_pos (j := root) ?_ h _ h (Nat.le_refl _), (pkTo_len _ _ _).1⟩
 exact puDn_true _ _ (by simp [List.getD, h])
theorem pk_few {ns : List Tc} {us : List Bool} {K : Nat} (hok : ∀ n ∈ ns, n.ks.length ≤ K) : ∀ k, k ≤ ns.length → ∀ n ∈ (pkTo ns us k).1, n.ks.length ≤ K
 | 0, _ => by simp [pkTo]
 | k + 1, h => by
  have hk2 : ns[k]? = some (ns[k]'(by omega)) := List.getElem?_eq_getElem (by omega)
  have ih := pk_few (us := us) hok k (by omega)
  rw [pkTo_succ hk2]
  unfold pkStep
  split
  ·intro m hm
   rcases List.mem_append.1 hm with h9 | h9
   ·exact ih m h9
   ·simp at h9
    subst h9
    unfold mvT
    simp only [List.length_map]
    exact hok _ (List.getElem_mem _)
  ·exact ih
theorem act_u {T : Array Value} {X : (Nat → Value) → Array Value} (h : T = X (fun i => T.getD i undef)) : ∃ u : Nat → Value, ({ tmps := T, defers := [] } : Act) = { tmps := X u, defers := [] } := ⟨_, congrArg (fun t => ({ tmps := t, defers := [] } : Act)) h⟩

structure PL (l : List Tg) (top : Int) : Prop where
 len : l.length ≤ 14
 ok : ∀ x ∈ l, okQ x.ct
 ah : Ahd (l.map Tg.ct)
 lo : 0 ≤ top
 hi : top < (l.length : Int)

structure PM (m : Nat) (l : List Tg) (top wide : Int) : Prop where
 m7 : m ≤ 7
 len : l.length + 2 * m ≤ 14
 ok : ∀ x ∈ l, okQ x.ct
 ah : Ahd (l.map Tg.ct)
 at' : (top = -1 ∧ l = [] ∧ 1 ≤ m) ∨ (0 ≤ top ∧ top < (l.length : Int) ∧ 1 ≤ wide ∧ wide ≤ 200)
def LG (w : World) (β : Nat) (a : Option Addr) (c : Nat) (bs : List Nat) (da : Option Addr) (ds : List Dc) (dc n : Nat) (want : Int) (a' : Act) (w' : World) : Prop := ∃ (v : Value) (l : List Tg) (top wide : Int), (∃ u : Nat → Value, a' = ({ tmps := #[.pointer (some ⟨β, 0, none⟩), .slice da n dc, .int .i64 want, u 3, u 4, u 5, .pointer (some ⟨w.heap.size, 0, none⟩), v, .int .i64 top, .int .i64 wide, u 10, u 11, u 12, u 13, u 14, u 15, u 16, u 17, u 18, u 19, u 20, u 21, u 22, u 23, u 24, u 25, u 26, u 27, u 28, u 29, u 30, u 31, u 32, u 33, u 34, u 35, u 36, u 37, u 38, u 39, u 40, u 41, u 42, u 43, u 44, u 45, u 46, u 47, u 48, u 49, u 50, u 51, u 52, u 53, u 54, u 55, u 56, u 57, u 58, u 59, u 60, u 61, u 62, u 63, u 64, u 65, u 66, u 67, u 68, u 69, u 70, u 71, u 72, u 73, u 74, u 75, u 76, u 77, u 78, u 79, u 80, u 81, u 82, u 83, u 84, u 85, u 86, u 87, u 88, u 89, u 90, u 91, u 92, u 93, u 94, u 95, u 96, u 97, u 98, u 99, u 100, u 101, u 102, u 103, u 104, u 105, u 106, u 107, u 108, u 109, u 110, u 111, u 112, u 113, u 114, u 115, u 116, u 117, u 118, u 119, u 120, u 121, u 122, u 123, u 124, u 125, u 126, u 127, u 128, u 129, u 130, u 131, u 132, u 133, u 134, u 135, u 136, u 137, u 138, u 139, u 140, u 141, u 142, u 143, u 144, u 145, u 146, u 147, u 148, u 149, u 150, u 151, u 152, u 153, u 154, u 155, u 156, u 157, u 158, u 159, u 160, u 161, u 162, u 163, u 164, u 165, u 166, u 167, u 168, u 169], defers := [] } : Act)) ∧ Gr w w' β a c bs da ds v l ∧ Bz w' w.heap.size #[.slice none 0 0] 66 ∧ PL l top
def RetG3 (β : Nat) (a : Option Addr) (c : Nat) (bs : List Nat) (w : World) (e : Ending) (w' : World) : Prop := ∃ v l, e = .returned (.agg #[v]) ∧ Tq w' w.heap.size v l ∧ 1 ≤ l.length ∧ l.length ≤ 20 ∧ (∀ x ∈ l, okQ x.ct) ∧ Rr w' β a c bs ∧ Dw β w w' ∧ KoQ w' w.heap.size l

end Go.Proofs.Ytffcklobignlfaa
