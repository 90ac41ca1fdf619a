/- Several texts in one. -/
import Derived.Test.YtkngpgonmedgpaaGreatDoorGAI
import Derived.Test.YtkngpgonmedgpaaGreatDoorGAJ
import Derived.Test.YtkngpgonmedgpaaGreatDoorGAN
import Derived.Test.YtkngpgonmedgpaaGreatDoorRX
import Derived.Test.YtkngpgonmedgpaaGreatDoorGAM
import Derived.Test.YtkngpgonmedgpaaGreatDoorGAP
namespace Go.Proofs.YtkngpgonmedgpaaGreatDoor
open Go.RowKit
set_option linter.unusedVariables false
set_option linter.unusedSimpArgs false
theorem nw_move {w w' : World} {lo : Nat} {a : Option Addr} {xs : List Nat} (h : Nw w lo a xs) (hk : ∀ p, a = some p → w'.heap[p.block]? = w.heap[p.block]?) : Nw w' lo a xs := by
 rcases h with ⟨h1, h2⟩ | ⟨g, cur, h1, h2, h3, h4⟩
 ·refine .inl ⟨h1, fun x e => ?_⟩
  obtain ⟨a', b, cur, c⟩ := h2 x e
  exact ⟨a', b, cur, by rw [hk _ e]; exact c⟩
 ·exact .inr ⟨g, cur, h1, h2, by rw [hk ⟨g, 0, none⟩ h1]; exact h3, h4⟩
def okW (X : List (Int × List Nat)) : Prop := X.length ≤ 1048576 ∧ ∀ x ∈ X, in64 x.1 ∧ x.2.length ≤ 1048576 ∧ ∀ y ∈ x.2, y < 18446744073709551616
theorem Bs.rd {w : World} {lo : Nat} {v : Value} {l : List Bw} (h : Bs w lo v l) (hX : okW (l.map Bw.ct)) : ∃ a c, v = .slice a l.length c ∧ RdW w a l :=
 h.row.rd (by simpa using hX.1) fun x hx => by
  obtain ⟨h1, h2, h3⟩ := hX.2 x.ct (List.mem_map_of_mem hx)
  exact ⟨(h.nw x hx).rd h2 h3, h1⟩

def GotW (w : World) (lo : Nat) (a : Option Addr) (xs : List Bw) : Prop := RdW w a xs ∧ (∀ p, xs ≠ [] → a = some p → lo ≤ p.block) ∧ ∀ x ∈ xs, ∀ p, x.ws ≠ [] → x.a = some p → lo ≤ p.block
theorem GotW.far {w w' : World} {lo : Nat} {a : Option Addr} {xs : List Bw} {β : Nat} (h : GotW w lo a xs) (hd : Dw β w w') (hβ : β < lo) : GotW w' lo a xs := by
 obtain ⟨⟨h1, h2⟩, h3, h4⟩ := h
 refine ⟨⟨h1, ?_⟩, h3, h4⟩
 rcases h2 with h2 | ⟨b, o, rfl, hc⟩
 ·exact .inl h2
 ·refine .inr ⟨b, o, rfl, fun i x hi => ?_⟩
  have hne : xs ≠ [] := fun e => by subst e; simp at hi
  obtain ⟨c0, c1, ⟨r1, r2, r3⟩, c3⟩ := hc i x hi
  have hb := h3 ⟨b, o, none⟩ hne rfl
  simp only [] at hb
  have key : ∀ (b' o' : Nat) (v : Value), lo ≤ b' → w.cell? ⟨b', o', none⟩ = some v → w'.cell? ⟨b', o', none⟩ = some v := fun b' o' v hl hv => by
   rw [World.cell?_of_block (a := ⟨b', o', none⟩) (show w'.heap[b']? = w.heap[b']? from hd.block b' (block_lt_of_cell hv) (fun e => by cases e; omega))]
   exact hv
  refine ⟨key _ _ _ hb c0, key _ _ _ hb c1, ⟨r1, r2, ?_⟩, c3⟩
  rcases r3 with r3 | ⟨b2, o2, e2, hc2⟩
  ·exact .inl r3
  ·refine .inr ⟨b2, o2, e2, fun j hj => key _ _ _ ?_ (hc2 j hj)⟩
   exact h4 x (List.mem_of_getElem? hi) ⟨b2, o2, none⟩ (fun e => by rw [e] at hj; simp at hj) e2
theorem Bs.far {w w' : World} {B : Nat} {v : Value} {l : List Bw} {β : Nat} (h : Bs w B v l) (hd : Dw β w w') (hβ : β < B) : Bs w' B v l :=
 ⟨h.row.move fun b hb => hd.block b (h.row.lt hb).2 (fun e => by cases e; have := (h.row.lt hb).1; omega), fun x hx => nw_move (h.nw x hx) fun p hp => hd.block _ (nw_lt (h.nw x hx) hp).2 (fun e => by cases e; have := (nw_lt (h.nw x hx) hp).1; omega), h.dj⟩
theorem Bs.got {w : World} {B : Nat} {v : Value} {l : List Bw} (h : Bs w B v l) (hX : okW (l.map Bw.ct)) : ∃ a c, v = .slice a l.length c ∧ GotW w B a l := by
 obtain ⟨a, c, rfl, hr⟩ := h.rd hX
 refine ⟨a, c, rfl, hr, fun p _ e => ?_, fun x hx p _ e => (nw_lt (h.nw x hx) e).1⟩
 have h1 := h.row.2
 generalize l.length = n at h1
 rcases h1 with ⟨e', -⟩ | ⟨g, cap, cur, e', hg, -⟩
 ·cases e'; cases e
 ·cases e'; cases e; exact hg
theorem RdD.farB {w w' : World} {β : Nat} {a : Option Addr} {ds : List Dc} (h : RdD w a ds) (hd : Dw β w w') (hn : ∀ p, a = some p → p.block ≠ β) : RdD w' a ds := by
 obtain ⟨h1, h2, h3⟩ := h
 refine ⟨h1, h2, ?_⟩
 rcases h3 with h3 | ⟨b, o, rfl, hc⟩
 ·exact .inl h3
 ·refine .inr ⟨b, o, rfl, fun i d hi => ?_⟩
  obtain ⟨c0, c1⟩ := hc i d hi
  have hb := hn ⟨b, o, none⟩ rfl
  simp only [] at hb
  have e : w'.heap[b]? = w.heap[b]? := hd.block b (block_lt_of_cell c0) (fun e => by cases e; exact hb rfl)
  exact ⟨by rw [World.cell?_of_block (a := ⟨b, _, none⟩) e]; exact c0, by rw [World.cell?_of_block (a := ⟨b, _, none⟩) e]; exact c1⟩
theorem Fresh.nw {w : World} {lo : Nat} {a : Option Addr} {xs : List Nat} (h : Fresh w lo a xs) : Nw w lo a xs := by
 rcases h with ⟨h1, h2⟩ | ⟨g, h1, h2, h3⟩
 ·exact .inl ⟨h1, fun x e => by rw [h2] at e; cases e⟩
 ·rw [h1]; exact h3.nw h2
theorem okW_in {X : List (Int × List Nat)} (hl : X.length ≤ 6) (h : ∀ x ∈ X, (1 ≤ x.1 ∧ x.1 ≤ 200) ∧ x.2.length ≤ 1048576 ∧ ∀ y ∈ x.2, y < 18446744073709551616) : okW X := ⟨by omega, fun x hx => ⟨by have := (h x hx).1; unfold in64; omega, (h x hx).2⟩⟩
theorem bwc_same : ∀ {l : List Bw} {i : Nat} {x x' : Bw}, l[i]? = some x → x'.wd = x.wd → x'.a = x.a → x'.c = x.c → x'.ws.length = x.ws.length → bwc (l.set i x') = bwc l
 | y :: t, 0, x, x', h, h1, h2, h3, h4 => by simp at h; subst h; simp [bwc, h1, h2, h3, h4]
 | y :: t, i + 1, x, x', h, h1, h2, h3, h4 => by
  have := bwc_same (l := t) (i := i) (x := x) (x' := x') (by simpa using h) h1 h2 h3 h4
  simp [bwc, this]
theorem row_ne {w : World} {B gw : Nat} {v : Value} {l : List Bw} {cur : Array Value} (h : OB2 w B v l) (hw : w.heap[gw]? = some (.cells cur 109 (0, 0))) : ∀ b, v.ownBlock = some b → b ≠ gw := fun b hb e => by
 obtain ⟨cur', hc⟩ := h.typed hb
 subst e
 rw [hw] at hc
 cases hc
theorem Bs.wordRow {w : World} {B i gw c : Nat} {d : Int} {v : Value} {l : List Bw} {ws : List Nat} {cur : Array Value} (h : Bs w B v l) (_ : l[i]? = some ⟨d, some ⟨gw, 0, none⟩, c, ws⟩) (hw : w.heap[gw]? = some (.cells cur 109 (0, 0))) (z : Nat) : OB2 (w.setCell ⟨gw, 0, none⟩ (.int .u64 (z : Int))) B v l :=
 h.row.move fun b hb => heap_setCell_other _ _ _ _ (by simpa using row_ne h.row hw b hb)
theorem Bs.word {w : World} {B i gw c : Nat} {d : Int} {v : Value} {l : List Bw} {ws : List Nat} {cur : Array Value} (h : Bs w B v l) (gx : l[i]? = some ⟨d, some ⟨gw, 0, none⟩, c, ws⟩) (hw : w.heap[gw]? = some (.cells cur 109 (0, 0))) (h0 : 0 < ws.length) (z : Nat) :
  Bs (w.setCell ⟨gw, 0, none⟩ (.int .u64 (z : Int))) B v (l.set i ⟨d, some ⟨gw, 0, none⟩, c, ws.set 0 z⟩) where
 row := by
  have hr := h.wordRow gx hw z
  unfold OB2 at hr ⊢
  rw [List.length_set, bwc_same (x' := ⟨d, some ⟨gw, 0, none⟩, c, ws.set 0 z⟩) gx rfl rfl rfl (by simp)]
  exact hr
 nw := fun y hy => by
  obtain ⟨j, hj, e⟩ := List.mem_iff_getElem.1 hy
  have gj : (l.set i ⟨d, some ⟨gw, 0, none⟩, c, ws.set 0 z⟩)[j]? = some y := by rw [List.getElem?_eq_getElem hj, e]
  rw [List.getElem?_set] at gj
  by_cases hij : i = j
  ·rw [if_pos hij] at gj
   split at gj
   ·simp at gj
    subst gj
    rcases h.nw _ (List.mem_of_getElem? gx) with ⟨e1, -⟩ | ⟨g, cur', e1, h2, h3, h4⟩
    ·simp only [] at e1
     rw [e1] at h0; simp at h0
    ·cases e1
     refine .inr ⟨gw, cur'.setIfInBounds 0 (.int .u64 (z : Int)), rfl, h2, heap_setCell_same w gw 0 _ _ _ h3, fun t ht => ?_⟩
     simp only [List.length_set] at ht
     by_cases ht0 : t = 0
     ·subst ht0
      rw [Array.getElem?_setIfInBounds_self_of_lt (Array.getElem?_eq_some_iff.1 (h4 0 h0)).1]
      simp [List.getD, h0]
     ·rw [Array.getElem?_setIfInBounds_ne (fun e => ht0 e.symm), h4 t ht]
      simp [List.getD, List.getElem?_set, Ne.symm ht0]
   ·cases gj
  ·rw [if_neg hij] at gj
   refine nw_move (h.nw y (List.mem_of_getElem? gj)) fun p hp => heap_setCell_other _ _ _ _ ?_
   simp only []
   intro e
   rcases Nat.lt_or_gt_of_ne hij with hlt | hgt
   ·exact h.dj i j _ y hlt gx gj _ p rfl hp (by simp only []; exact e.symm)
   ·exact h.dj j i y _ hgt gj gx p _ hp rfl (by simp only []; exact e)
 dj := fun p q x y hpq hx hy a b ha hb => by
  rw [List.getElem?_set] at hx hy
  have key : ∀ (r : Nat) (x : Bw) (a : Addr), (if i = r then if i < l.length then some (⟨d, some ⟨gw, 0, none⟩, c, ws.set 0 z⟩ : Bw) else none else l[r]?) = some x → x.a = some a → ∃ x', l[r]? = some x' ∧ x'.a = some a := fun r x a hr ha => by
   split at hr
   ·rename_i e
    split at hr
    ·simp at hr
     subst hr
     subst e
     exact ⟨_, gx, ha⟩
    ·cases hr
   ·exact ⟨x, hr, ha⟩
  obtain ⟨x', g1, g2⟩ := key p x a hx ha
  obtain ⟨y', g3, g4⟩ := key q y b hy hb
  exact h.dj p q x' y' hpq g1 g3 a b g2 g4
theorem GotW.tail {w : World} {lo g : Nat} {l : List Bw} (h : GotW w lo (some ⟨g, 0, none⟩) l) : GotW w lo (some ⟨g, 2, none⟩) l.tail := by
 obtain ⟨⟨h1, h2⟩, h3, h4⟩ := h
 refine ⟨⟨by rw [List.length_tail]; omega, ?_⟩, fun p hp e => ?_, fun x hx => h4 x (List.mem_of_mem_tail hx)⟩
 ·rcases h2 with h2 | ⟨b, o, e, hc⟩
  ·exact .inl (by rw [h2]; rfl)
  ·cases e
   refine .inr ⟨g, 2, rfl, fun i x hi => ?_⟩
   have h5 := hc (i + 1) x (by simpa using hi)
   rw [show 0 + (i + 1) * 2 = 2 + i * 2 by omega] at h5
   exact h5
 ·cases e
  exact h3 ⟨g, 0, none⟩ (fun e => by subst e; exact hp rfl) rfl
theorem Rd.other {w : World} {a : Option Addr} {xs : List Nat} {g : Nat} (h : Rd w a xs) (hn : ∀ p, a = some p → p.block ≠ g) (i : Nat) (v : Value) : Rd (w.setCell ⟨g, i, none⟩ v) a xs := by
 obtain ⟨h1, h2, h3⟩ := h
 refine ⟨h1, h2, ?_⟩
 rcases h3 with h3 | ⟨b, o, rfl, hc⟩
 ·exact .inl h3
 ·refine .inr ⟨b, o, rfl, fun j hj => ?_⟩
  have hb := hn ⟨b, o, none⟩ rfl
  simp only [] at hb
  rw [World.cell?_of_block (a := ⟨b, o + j, none⟩) (w := w) (heap_setCell_other _ _ _ _ (by simpa using hb))]
  exact hc j hj
def RetVs (β : Nat) (a : Option Addr) (c : Nat) (bs : List Nat) (w : World) (e : Ending) (w' : World) : Prop := ∃ av cv xs, e = .returned (.slice av xs.length cv) ∧ xs.length ≤ 6 ∧ GotW w' w.heap.size av xs ∧ Rr w' β a c bs ∧ Dw β w w'
set_option maxHeartbeats 1000000 in
theorem values_any (β : Nat) (a : Option Addr) (c : Nat) (bs : List Nat) (da : Option Addr) (dc : Nat) (ds : List Dc) (w : World) (hr : Rr w β a c bs) (hd : RdD w da ds) (hβ : ∀ p, da = some p → p.block ≠ β) (h1 : 1 ≤ ds.length) (h6 : ds.length ≤ 6) (hw : ∀ x ∈ ds, 1 ≤ x.2 ∧ x.2 ≤ 200) :
  Calls Tryz.prog 36 #[.pointer (some ⟨β, 0, none⟩), .slice da ds.length dc] w (RetVs β a c bs w) := by
 have hlt := hr.lt
 have HR := kide hr
 have HD := kide hd
 have HW := kide hw
 have HB := kide hβ
 obtain ⟨n, hn⟩ : ∃ n, ds.length = n := ⟨_, rfl⟩
 have HN := kide hn
 rw [hn] at h1 h6 ⊢
 clear hr hd hw hβ hn
 have R0 := kide (HR.out.alloc (.cells #[] 80))
 have O0 := kide (Bs.empty w w.heap.size (Nat.le_refl _))
 have D0 : Hid (Dw β w (w.alloc (.cells #[] 80))) := (Dw.refl β w).alloc _
 go_enter Tryz.func36, Tryz.ntmps36
 go_wp2_with fail
 generalize w.alloc (Obj.cells #[] 80) = w0 at *
 go_loopw [5, 6] (fun v q wr => ∃ (k : Nat) (l : List Bw) (av : Option Addr) (cv : Nat), k ≤ n ∧ q = .int .i64 (k : Int) ∧ v = .slice av k cv ∧ l.length = k ∧ Bs wr w.heap.size (.slice av k cv) l ∧ (∀ x ∈ l, (1 ≤ x.wd ∧ x.wd ≤ 200) ∧ 1 ≤ x.ws.length ∧ x.ws.length ≤ 1048576 ∧ ∀ y ∈ x.ws, y < 18446744073709551616) ∧ Rr wr β a c bs ∧ Dw β w wr) (fun _ q _ => n - (intOf q).toNat)
 case atStart => exact ⟨0, [], some ⟨w.heap.size, 0, none⟩, 0, Nat.zero_le _, rfl, rfl, rfl, O0.out, by simp, R0.out, D0.out⟩
 case round =>
  clear R0 D0 O0
  obtain ⟨k, l, av, cv, hk, rfl, rfl, hl, ho, hx, hrr, hdw⟩ := hrel
  have OO := kide ho
  have HX := kide hx
  have RR := kide hrr
  have DD := kide hdw
  have HL := kide hl
  clear ho hx hrr hdw hl
  by_cases hlt2 : k < n
  ·obtain ⟨-, hdd, h | ⟨b, o, rfl, hc⟩⟩ := HD.out.farB DD.out HB.out
   ·have := HN.out; rw [h] at this; simp at this; omega
   obtain ⟨⟨nm, y⟩, gd⟩ : ∃ d, ds[k]? = some d := ⟨ds[k]'(by rw [HN.out]; exact hlt2), List.getElem?_eq_getElem _⟩
   obtain ⟨p0, p1⟩ := hc k _ gd
   obtain ⟨hy1, hy2⟩ := HW.out _ (List.mem_of_getElem? gd)
   simp only [] at p0 p1 hy1 hy2
   obtain ⟨V, rfl⟩ := Int.eq_ofNat_of_zero_le (show 0 ≤ y by omega)
   have i0 : (k : Int) < (n : Int) := by omega
   have hm : min (V : Int) 4096 = (V : Int) := by omega
   have hM : max 1 (V : Int) = (V : Int) := by omega
   have lb := block_lt_of_cell p0
   clear hc gd hdd p0
   go_wp2_with fail
   refine Calls.mono (bits_any V (by omega) (by omega) β a c bs wr RR.out) ?_
   rintro e w2 ⟨a2, lb2, hl2, hb2, rfl, hf2, r2, d2⟩
   have R2 := kide r2
   have D2 := kide (DD.out.trans d2)
   have O2 := kide (OO.out.far d2 hlt)
   have N2 := kide hf2.nw
   have S2 := kide (show wr.heap.size ≤ w2.heap.size from d2.size)
   have P2 : Hid (1 ≤ (pack lb2).length ∧ (pack lb2).length ≤ 1048576 ∧ ∀ y ∈ pack lb2, y < 18446744073709551616) := ⟨by rw [pack_len]; omega, by rw [pack_len]; omega, pack_lt lb2⟩
   generalize pack lb2 = ws at *
   obtain ⟨m, hm2⟩ : ∃ m, ws.length = m := ⟨_, rfl⟩
   have HM2 := kide hm2
   rw [hm2]
   clear hl2 hb2 hf2 r2 d2 hm2
   have hb5 : Below w2.heap.size w2 (w2.alloc (Obj.cells #[.int .i64 (V : Int), .slice a2 m m] 80)) := (Below.refl _ _).alloc (Nat.le_refl _) _
   have q0 : (w2.alloc (Obj.cells #[.int .i64 (V : Int), .slice a2 m m] 80)).cell? ⟨w2.heap.size, 0, none⟩ = some (.int .i64 (V : Int)) := by simp
   have q1 : (w2.alloc (Obj.cells #[.int .i64 (V : Int), .slice a2 m m] 80)).cell? ⟨w2.heap.size, 1, none⟩ = some (.slice a2 m m) := by simp
   have R5 := kide (R2.out.later hb5)
   have D5 := kide (D2.out.trans (Dw.of hb5))
   have O5 := kide (O2.out.later hb5)
   have N5 := kide (N2.out.later hb5)
   have hsz : w.heap.size ≤ (w2.alloc (Obj.cells #[.int .i64 (V : Int), .slice a2 m m] 80)).heap.size := D5.out.size
   clear hb5
   go_wp2_with (at_builtin; refine wpList_appB2 rfl _ _ rfl w.heap.size (.slice av k cv) l ⟨(V : Int), a2, m, ws⟩ (by first | rfl | simp [Act.eval]) O5.out.row w2.heap.size 1 (by first | rfl | simp [Act.eval]) q0 (by rw [HM2.out]; exact q1) (by rw [HL.out]; omega) hsz ?_)
   intro g cap w6 ho6 hg6
   have O6 : Hid (Bs w6 w.heap.size (.slice (some ⟨g, 0, none⟩) (l.length + 1) cap) (l ++ [⟨(V : Int), a2, m, ws⟩])) := by
    refine ⟨ho6, fun x hx => ?_, O5.out.dj.snoc (w := wr) OO.out.nw fun p hp => (nw_lt N5.out hp).1⟩
    rcases List.mem_append.1 hx with hx | hx
    ·exact nw_row (O5.out.nw x hx) O5.out.row hg6
    ·simp at hx
     subst hx
     exact (nw_row N5.out O5.out.row hg6).mono DD.out.size
   have R6 : Hid (Rr w6 β a c bs) := HR.out.far R5.out hg6 (fun k e => (O5.out.row.lt e).1)
   have D6 : Hid (Dw β w w6) := D5.out.own hg6 (fun k e => (O5.out.row.lt e).1)
   rw [HL.out] at O6 ⊢
   clear ho6 hg6 q0 q1
   go_wp2_with fail
   go_roundw
   case rel =>
    refine ⟨k + 1, l ++ [⟨(V : Int), a2, m, ws⟩], some ⟨g, 0, none⟩, cap, by omega, by go_num, rfl, by simp [HL.out], O6.out, fun x hx => ?_, R6.out, D6.out⟩
    rcases List.mem_append.1 hx with hx | hx
    ·exact HX.out x hx
    ·simp at hx
     subst hx
     exact ⟨⟨hy1, hy2⟩, P2.out⟩
   case measure => simp [intOf]; omega
  ·go_wp2_with fail
   refine Calls.mono (below_any 40 (by omega) β a c bs wr RR.out) ?_
   rintro e w2 ⟨x2, rfl, hx2, r2, d2⟩
   have R2 := kide r2
   have D2 := kide (DD.out.trans d2)
   have O2 := kide (OO.out.far d2 hlt)
   clear r2 d2 RR DD OO
   have HOK : Hid (okW (l.map Bw.ct)) := okW_in (by rw [List.length_map, HL.out]; omega) (fun x hx => by
    obtain ⟨y, hy, rfl⟩ := List.mem_map.1 hx
    exact ⟨(HX.out y hy).1, (HX.out y hy).2.2⟩)
   obtain ⟨g, hgg⟩ : ∃ g, av = some ⟨g, 0, none⟩ := by
    obtain ⟨g, c', eg, -⟩ := O2.out.row.at (List.getElem?_eq_getElem (show 0 < l.length by rw [HL.out]; omega))
    rw [HL.out] at eg
    cases eg
    exact ⟨g, rfl⟩
   subst hgg
   have hcap : k ≤ cv := by
    have h2 := O2.out.row.2
    rw [HL.out] at h2
    rcases h2 with ⟨e', -⟩ | ⟨g', cap, cur, e', hg', hh', hc1, -⟩
    ·cases e'
    ·cases e'; exact hc1
   have hkn : k = n := by omega
   subst hkn
   by_cases e0 : x2 = 0
   ·subst e0
    go_wp2_with fail
    refine wp_region_x (SA := fun _ => False) (SB := (fun uu => OB2 uu w.heap.size (.slice (some ⟨g, 0, none⟩) k cv) l)) (k := 999) (by kernel_rfl) ?_
    have SS := kide (O2.out.later (show Below w2.heap.size w2 w2.drew from (Below.refl _ _).drew))
    have RU := kide (R2.out.later (show Below w2.heap.size w2 w2.drew from (Below.refl _ _).drew))
    have DU := kide (D2.out.drew)
    generalize w2.drew = u0 at *
    clear R2 D2 O2
    try go_simp
    refine tkB (T := (fun _ => True)) (i := 0) (v := Value.slice (some ⟨g, 0, none⟩) k cv) rfl (by kernel_rfl) (fun _ _ _ h => by first | exact h | exact h.elim) (fun _ _ => trivial) (fun _ _ => trivial) (Sx.behind (by kernel_rfl) SS.out.row) (Or.inl ⟨by rfl, fun uu hu => by go_simp⟩) ?_
    try go_simp
    refine tkB (T := (fun _ => True)) (i := 1) (v := Value.pointer (some ⟨β, 0, none⟩)) rfl (by kernel_rfl) (fun _ _ _ h => by first | exact h | exact h.elim) (fun _ _ => trivial) (fun _ _ => trivial) (Sx.behind (by kernel_rfl) SS.out.row) (Or.inl ⟨by rfl, fun uu hu => by go_simp⟩) ?_
    try go_simp
    refine tkB (T := (fun _ => True)) (i := 2) (v := Value.slice (some ⟨g, 0, none⟩) k cv) rfl (by kernel_rfl) (fun _ _ _ h => by first | exact h | exact h.elim) (fun _ _ => trivial) (fun _ _ => trivial) (Sx.behind (by kernel_rfl) SS.out.row) (Or.inl ⟨by rfl, fun uu hu => by go_simp⟩) ?_
    try go_simp
    refine tkB (T := (fun _ => True)) (i := 3) (v := Value.int .i64 (k : Int)) rfl (by kernel_rfl) (fun _ _ _ h => by first | exact h | exact h.elim) (fun _ _ => trivial) (fun _ _ => trivial) (Sx.behind (by kernel_rfl) SS.out.row) (Or.inl ⟨by rfl, fun uu hu => by go_simp⟩) ?_
    try go_simp
    refine tkB (T := (fun _ => True)) (i := 8) (v := Value.pointer (some ⟨β, 0, none⟩)) rfl (by kernel_rfl) (fun _ _ _ h => by first | exact h | exact h.elim) (fun _ _ => trivial) (fun _ _ => trivial) (Sx.behind (by kernel_rfl) SS.out.row) (Or.inl ⟨by rfl, fun uu hu => by go_simp⟩) ?_
    try go_simp
    refine wpAnyX_ready (rs := [4]) (by kernel_rfl) (by simp) (AllX.cons rfl (fun K hK => ?_) AllX.nil)
    go_simp
    refine Calls.mono (below_any k (by omega) β a c bs u0 RU.out) ?_
    rintro e u1 ⟨x, rfl, hx3, r3, d3⟩
    have hxk : x < k := by omega
    have S1 := kide (SS.out.far d3 hlt)
    have R1 := kide r3
    have D1 := kide (DU.out.trans d3)
    clear SS RU DU r3 d3 hx3
    have SS := S1
    refine hK _ _ (Sx.behind (by kernel_rfl) SS.out.row) ?_
    clear hK K
    try go_simp
    obtain ⟨y, gy⟩ : ∃ y, l[x]? = some y := ⟨l[x]'(by rw [HL.out]; exact hxk), List.getElem?_eq_getElem _⟩
    have hyp := HX.out y (List.mem_of_getElem? gy)
    obtain ⟨gw, cur, ew, hwl, hwb, hwc⟩ : ∃ gw cur, y.a = some ⟨gw, 0, none⟩ ∧ w.heap.size ≤ gw ∧ u1.heap[gw]? = some (.cells cur 109 (0, 0)) ∧ ∀ i, i < y.ws.length → cur[i]? = some (.int .u64 ((y.ws.getD i 0 : Nat) : Int)) := by
     rcases SS.out.nw y (List.mem_of_getElem? gy) with ⟨h, -⟩ | h
     ·rw [h] at hyp; simp at hyp
     ·exact h
    obtain ⟨yd, ya, yc, yw⟩ := y
    simp only [] at ew hyp hwc
    subst ew
    have GY := kide gy
    obtain ⟨ym, hym⟩ : ∃ m, yw.length = m := ⟨_, rfl⟩
    have hm1 : 1 ≤ ym := by omega
    have HYM := kide hym
    have xi : (x : Int) < (k : Int) := by omega
    have mi : (0 : Int) < (ym : Int) := by omega
    have mz : ym ≠ 0 := by omega
    have LD : Hid (∀ uu, (fun uu => OB2 uu w.heap.size (.slice (some ⟨g, 0, none⟩) k cv) l) uu → uu.cell? ⟨g, x * 2 + 1, none⟩ = some (.slice (some ⟨gw, 0, none⟩) ym yc)) := fun uu hu => by
     obtain ⟨g', c', eg, -, h2⟩ := OB2.at hu GY.out
     rw [HL.out] at eg
     cases eg
     rw [HYM.out] at h2
     exact h2
    clear gy hym
    refine tkB (T := (fun _ => True)) (i := 5) (v := Value.pointer (some ⟨g, x * 2, none⟩)) rfl (by kernel_rfl) (fun _ _ _ h => by first | exact h | exact h.elim) (fun _ _ => trivial) (fun _ _ => trivial) (Sx.behind (by kernel_rfl) SS.out.row) (Or.inl ⟨by rfl, fun uu hu => by go_simp⟩) ?_
    try go_simp
    refine tkB (T := (fun _ => True)) (i := 6) (v := Value.pointer (some ⟨g, x * 2 + 1, none⟩)) rfl (by kernel_rfl) (fun _ _ _ h => by first | exact h | exact h.elim) (fun _ _ => trivial) (fun _ _ => trivial) (Sx.behind (by kernel_rfl) SS.out.row) (Or.inl ⟨by rfl, fun uu hu => by go_simp⟩) ?_
    try go_simp
    refine tkB (T := (fun uu => OB2 uu w.heap.size (.slice (some ⟨g, 0, none⟩) k cv) l)) (i := 7) (v := Value.slice (some ⟨gw, 0, none⟩) ym yc) rfl (by kernel_rfl) (fun _ _ _ h => by first | exact h | exact h.elim) (fun _ h => h.elim) (fun _ h => h) (Sx.behind (by kernel_rfl) SS.out.row) (Or.inl ⟨by rfl, fun uu hu => by have h := LD.out uu hu; go_simp⟩) ?_
    try go_simp
    refine wpAnyX_ready (rs := [9]) (by kernel_rfl) (by simp) (AllX.cons rfl (fun K hK => ?_) AllX.nil)
    go_simp
    refine Calls.mono (word_any β a c bs u1 R1.out) ?_
    rintro e u2 ⟨z, rfl, hz, r3, d3⟩
    have hgb : gw ≠ β := by omega
    have S2 := kide (SS.out.far d3 hlt)
    have R2 := kide r3
    have D2 := kide (D1.out.trans d3)
    have hw2 : u2.heap[gw]? = some (.cells cur 109 (0, 0)) := (d3.block gw (lt_of_block hwb) (fun e => by cases e; exact hgb rfl)).trans hwb
    clear SS S1 R1 D1 r3 d3 hwb
    have SS := S2
    refine hK _ _ (Sx.behind (by kernel_rfl) SS.out.row) ?_
    clear hK K
    try go_simp
    refine tkB (T := (fun _ => True)) (i := 10) (v := Value.pointer (some ⟨gw, 0, none⟩)) rfl (by kernel_rfl) (fun _ _ _ h => by first | exact h | exact h.elim) (fun _ _ => trivial) (fun _ _ => trivial) (Sx.behind (by kernel_rfl) SS.out.row) (Or.inl ⟨by rfl, fun uu hu => by go_simp⟩) ?_
    try go_simp
    have cz : u2.cell? ⟨gw, 0, none⟩ = some (.int .u64 ((yw.getD 0 0 : Nat) : Int)) := by rw [cell_of_row u2 gw 0 _ _ _ hw2]; exact hwc 0 (by have := HYM.out; omega)
    have fz := frozen_of_row u2 gw 0 _ _ hw2
    have B3 : Hid (Bs (u2.setCell ⟨gw, 0, none⟩ (.int .u64 (z : Int))) w.heap.size (.slice (some ⟨g, 0, none⟩) k cv) (l.set x ⟨yd, some ⟨gw, 0, none⟩, yc, yw.set 0 z⟩)) := by
     have h := S2.out.word GY.out hw2 (by rw [HYM.out]; omega) z
     exact h
    have R3 : Hid (Rr (u2.setCell ⟨gw, 0, none⟩ (.int .u64 (z : Int))) β a c bs) := HR.out.far R2.out (gsc u2 ⟨gw, 0, none⟩ _) (fun k e => by cases e; exact hwl)
    have D3 : Hid (Dw β w (u2.setCell ⟨gw, 0, none⟩ (.int .u64 (z : Int)))) := D2.out.own (gsc u2 ⟨gw, 0, none⟩ _) (fun k e => by cases e; exact hwl)
    refine wpAnyX_ready (rs := [11]) (by kernel_rfl) (by simp) (AllX.cons rfl (fun K hK => ?_) AllX.nil)
    go_simp
    have SR : Hid ((fun uu => OB2 uu w.heap.size (.slice (some ⟨g, 0, none⟩) k cv) l) (u2.setCell ⟨gw, 0, none⟩ (.int .u64 (z : Int)))) := S2.out.wordRow GY.out hw2 z
    refine hK _ _ (Sx.behind (by kernel_rfl) SR.out) ?_
    clear hK K
    try go_simp
    refine wpAnyX_done (by kernel_rfl) ?_ _
    go_wp2_with fail
    go_ret
    obtain ⟨av', cv', eq, hgot⟩ := B3.out.got (okW_in (by rw [List.length_map, List.length_set, HL.out]; omega) (fun x9 hx9 => by
     obtain ⟨y9, hy9, rfl⟩ := List.mem_map.1 hx9
     rcases List.mem_or_eq_of_mem_set hy9 with h9 | rfl
     ·exact ⟨(HX.out y9 h9).1, (HX.out y9 h9).2.2⟩
     ·refine ⟨hyp.1, by show (yw.set 0 z).length ≤ _; rw [List.length_set]; exact hyp.2.2.1, fun q9 hq9 => ?_⟩
      rcases List.mem_or_eq_of_mem_set hq9 with h9 | rfl
      ·exact hyp.2.2.2 q9 h9
      ·exact hz))
    rw [List.length_set, HL.out] at eq
    cases eq
    exact ⟨_, cv, _, by rw [List.length_set, HL.out]; rfl, by rw [List.length_set, HL.out]; exact h6, hgot, R3.out, D3.out⟩
   by_cases e1 : x2 = 1
   ·subst e1
    obtain ⟨av', cv', eq, hgot⟩ := O2.out.got HOK.out
    rw [HL.out] at eq
    cases eq
    have HG := kide hgot
    have k0 : (1 : Int) ≤ (k : Int) := by omega
    clear hgot e0
    by_cases hc1 : cv = 1
    ·subst hc1
     have hk1 : k = 1 := by omega
     subst hk1
     go_wp2_with fail
     go_ret
     refine ⟨_, 0, [], by first | rfl | simp, by simp, ⟨⟨by simp, .inl rfl⟩, by simp, by simp⟩, R2.out, D2.out⟩
    ·go_wp2_with fail
     go_ret
     refine ⟨some ⟨g, 2, none⟩, cv - 1, l.tail, by rw [List.length_tail, HL.out]; first | rfl | simp, by rw [List.length_tail, HL.out]; omega, HG.out.tail, R2.out, D2.out⟩
   by_cases e2 : x2 = 2
   ·subst e2
    clear e0 e1
    obtain ⟨cur, hcur⟩ := O2.out.row.blk
    have LG := hcur.lt
    go_wp2_with fail
    refine Calls.mono (odd_any β a c bs w2 R2.out) ?_
    rintro e w3 ⟨a3, c3, W3, xs3, rfl, hx31, hx32, hx33, hg3, r3, d3⟩
    have R3 := kide r3
    have D3 := kide (D2.out.trans d3)
    have O3 := kide (O2.out.far d3 hlt)
    have G3 := kide hg3
    have l0 : 0 < l.length := by rw [HL.out]; omega
    obtain ⟨g', c', eg, z0, z1⟩ := O3.out.row.at (List.getElem?_eq_getElem l0)
    rw [HL.out] at eg
    cases eg
    rw [Nat.zero_mul] at z0 z1
    rw [Nat.zero_add] at z1
    obtain ⟨cur3, hcur3⟩ := O3.out.row.blk
    have f0 := hcur3.froz 0
    have f1 := hcur3.froz 1
    obtain ⟨m3, hm3⟩ : ∃ m, xs3.length = m := ⟨_, rfl⟩
    have HM3 := kide hm3
    rw [hm3]
    have hgl : w.heap.size ≤ g := (O3.out.row.lt rfl).1
    have W5 : Hid (GotW ((w3.setCell ⟨g, 0, none⟩ (.int .i64 W3)).setCell ⟨g, 1, none⟩ (.slice a3 m3 c3)) w.heap.size (some ⟨g, 0, none⟩) (l.set 0 ⟨W3, a3, c3, xs3⟩)) := by
     have hrow := O3.out.row.store 0 ⟨W3, a3, c3, xs3⟩
     simp only [Nat.zero_mul, Nat.zero_add, HM3.out] at hrow
     have hne : ∀ p, a3 = some p → p.block ≠ g := fun p hp e => by have := G3.out.2 p hp; have := LG; omega
     have hx : ∀ x ∈ l.set 0 ⟨W3, a3, c3, xs3⟩, Rd ((w3.setCell ⟨g, 0, none⟩ (.int .i64 W3)).setCell ⟨g, 1, none⟩ (.slice a3 m3 c3)) x.a x.ws ∧ in64 x.wd := fun x hx => by
      rcases List.mem_or_eq_of_mem_set hx with hx | rfl
      ·have h9 := HX.out x hx
       exact ⟨(nw_set (nw_set (O3.out.nw x hx) hcur3 (by decide) _ _) (hcur3.set _ _) (by decide) _ _).rd h9.2.2.1 h9.2.2.2, by have := h9.1; unfold in64; omega⟩
      ·exact ⟨(G3.out.1.other hne _ _).other hne _ _, ⟨hx32, hx33⟩⟩
     obtain ⟨a9, c9, e9, h9⟩ := hrow.rd (by rw [List.length_set, HL.out]; omega) hx
     rw [List.length_set, HL.out] at e9
     cases e9
     refine ⟨h9, fun p _ e => by cases e; exact hgl, fun x hx p _ e => ?_⟩
     rcases List.mem_or_eq_of_mem_set hx with hx | rfl
     ·exact (nw_lt (O3.out.nw x hx) e).1
     ·have := G3.out.2 p e
      have := D2.out.size
      omega
    have R5 : Hid (Rr ((w3.setCell ⟨g, 0, none⟩ (.int .i64 W3)).setCell ⟨g, 1, none⟩ (.slice a3 m3 c3)) β a c bs) := HR.out.far (HR.out.far R3.out (gsc w3 ⟨g, 0, none⟩ _) (fun k e => by cases e; exact hgl)) (gsc _ ⟨g, 1, none⟩ _) (fun k e => by cases e; exact hgl)
    have D5 : Hid (Dw β w ((w3.setCell ⟨g, 0, none⟩ (.int .i64 W3)).setCell ⟨g, 1, none⟩ (.slice a3 m3 c3))) := (D3.out.own (gsc w3 ⟨g, 0, none⟩ _) (fun k e => by cases e; exact hgl)).own (gsc _ ⟨g, 1, none⟩ _) (fun k e => by cases e; exact hgl)
    clear hm3 hcur3 hcur hg3 r3 d3
    go_wp2_with fail
    go_ret
    exact ⟨_, cv, _, by rw [List.length_set, HL.out]; rfl, by rw [List.length_set, HL.out]; exact h6, W5.out, R5.out, D5.out⟩
   have n0 : ((x2 : Int) == 0) = false := beq_eq_false_iff_ne.2 (by omega)
   have n1 : ((x2 : Int) == 1) = false := beq_eq_false_iff_ne.2 (by omega)
   have n2 : ((x2 : Int) == 2) = false := beq_eq_false_iff_ne.2 (by omega)
   clear e0 e1 e2
   go_wp2_with fail
   go_ret
   obtain ⟨av', cv', eq, hgot⟩ := O2.out.got HOK.out
   rw [HL.out] at eq
   cases eq
   exact ⟨_, cv, l, by rw [HL.out]; rfl, by rw [HL.out]; exact h6, hgot, R2.out, D2.out⟩

def okQ (x : Tc) : Prop := okT x ∧ x.ks.length ≤ 1000

structure Tq (w : World) (B : Nat) (v : Value) (l : List Tg) : Prop where
 row : OT w B v l
 wn : ∀ x ∈ l, Nw w B x.wa x.ct.ws
 kn : ∀ x ∈ l, Ni w B x.ka x.ct.ks
 sn : Sn l
theorem Tq.later {w w' : World} {B : Nat} {v : Value} {l : List Tg} (h : Tq w B v l) (hb : Below w.heap.size w w') : Tq w' B v l := ⟨h.row.later hb, fun x hx => (h.wn x hx).later hb, fun x hx => (h.kn x hx).later hb, h.sn⟩
theorem Tq.far {w w' : World} {B β : Nat} {v : Value} {l : List Tg} (h : Tq w B v l) (hd : Dw β w w') (hβ : β < B) : Tq w' B v l :=
 ⟨h.row.move fun b hb => hd.block b (h.row.lt hb).2 (fun e => by cases e; have := (h.row.lt hb).1; omega), fun x hx => nw_blk (h.wn x hx) fun p hp => hd.block _ (nw_ltB (h.wn x hx) hp).2 (fun e => by cases e; have := (nw_ltB (h.wn x hx) hp).1; omega), fun x hx => ni_blk (h.kn x hx) fun p hp => hd.block _ (ni_lt (h.kn x hx) hp).2 (fun e => by cases e; have := (ni_lt (h.kn x hx) hp).1; omega), h.sn⟩
theorem Tq.low {w : World} {B B' : Nat} {v : Value} {l : List Tg} (h : Tq w B v l) (hB : B' ≤ B) : Tq w B' v l := ⟨ot_low h.row hB, fun x hx => (h.wn x hx).mono hB, fun x hx => (h.kn x hx).mono hB, h.sn⟩
theorem Tq.empty (w : World) (B : Nat) (h : B ≤ w.heap.size) : Tq (w.alloc (.cells #[] 119)) B (.slice (some ⟨w.heap.size, 0, Option.none⟩) 0 0) [] := ⟨OT.empty w B h, by simp, by simp, by simp [Sn]⟩
theorem Tq.form {w : World} {B : Nat} {v : Value} {l : List Tg} (h : Tq w B v l) : ∃ a c, v = .slice a l.length c := h.row.form
theorem Tq.push {w w' : World} {B : Nat} {v v' : Value} {l : List Tg} {y : Tg} (h : Tq w B v l) (hy : Nw w B y.wa y.ct.ws) (hk : Ni w B y.ka y.ct.ks) (hs : (y.wa = none → y.wc = 0) ∧ (y.ka = none → y.kc = 0)) (hg : w.grownBy w' v.ownBlock) (ho : OT w' B v' (l ++ [y])) : Tq w' B v' (l ++ [y]) where
 row := ho
 wn := fun x hx => by
  rcases List.mem_append.1 hx with hx | hx
  ·exact nw_rowT (h.wn x hx) h.row hg
  ·simp at hx; subst hx; exact nw_rowT hy h.row hg
 kn := fun x hx => by
  rcases List.mem_append.1 hx with hx | hx
  ·exact ni_rowT (h.kn x hx) h.row hg
  ·simp at hx; subst hx; exact ni_rowT hk h.row hg
 sn := fun x hx => by
  rcases List.mem_append.1 hx with hx | hx
  ·exact h.sn x hx
  ·simp at hx; subst hx; exact hs
theorem tgv_len (x : Tg) : (tgv x).length = 7 := rfl
theorem tgc_set {j : Nat} {x x' : Tg} {u : Value} (hj : j < 7) (e : tgv x' = (tgv x).set j u) : ∀ (l : List Tg) (i : Nat), l[i]? = some x → tgc (l.set i x') = (tgc l).set (i * 7 + j) u
 | [], i, h => by simp at h
 | y :: t, 0, h => by
  have hy : y = x := by simpa using h
  rw [hy, List.set_cons_zero]
  show tgv x' ++ tgc t = (tgv x ++ tgc t).set (0 * 7 + j) u
  rw [e, Nat.zero_mul, Nat.zero_add, List.set_append_left _ _ (by rw [tgv_len]; exact hj)]
 | y :: t, i + 1, h => by
  have ih := tgc_set hj e t i (by simpa using h)
  rw [List.set_cons_succ]
  show tgv y ++ tgc (t.set i x') = (tgv y ++ tgc t).set ((i + 1) * 7 + j) u
  rw [ih, List.set_append_right _ _ (by rw [tgv_len]; omega), tgv_len, show (i + 1) * 7 + j - 7 = i * 7 + j by omega]
theorem OT.put {w : World} {B g n c i j : Nat} {l : List Tg} {x x' : Tg} {u : Value} (h : OT w B (.slice (some ⟨g, 0, none⟩) n c) l) (hi : l[i]? = some x) (hj : j < 7) (e : tgv x' = (tgv x).set j u) : OT (w.setCell ⟨g, i * 7 + j, none⟩ u) B (.slice (some ⟨g, 0, none⟩) n c) (l.set i x') := by
 rcases h.2 with ⟨e', -⟩ | ⟨g', cap, cur, e', hg, hh, hc1, hc2, hsz, hcur⟩
 ·cases e'
 ·cases e'
  refine ⟨by rw [tgc_len], .inr ⟨g, c, cur.setIfInBounds (i * 7 + j) u, by rw [List.length_set], hg, heap_setCell_same w g (i * 7 + j) _ _ _ hh, by rw [List.length_set]; exact hc1, hc2, by simpa using hsz, ?_⟩⟩
  rw [List.length_set, Array.toList_setIfInBounds, List.take_set, hcur, tgc_set hj e l i hi]
theorem OT.froz {w : World} {B g n c : Nat} {l : List Tg} (h : OT w B (.slice (some ⟨g, 0, none⟩) n c) l) (o : Nat) : w.frozen? ⟨g, o, none⟩ = false := by
 rcases h.2 with ⟨e', -⟩ | ⟨g', cap, cur, e', hg, hh, -⟩
 ·cases e'
 ·cases e'; exact frozen_of_row w g o _ _ hh
theorem Tq.put {w : World} {B g n c i j : Nat} {l : List Tg} {x x' : Tg} {u : Value} (h : Tq w B (.slice (some ⟨g, 0, none⟩) n c) l) (hi : l[i]? = some x) (hj : j < 7) (e : tgv x' = (tgv x).set j u) (hw : Nw w B x'.wa x'.ct.ws) (hk : Ni w B x'.ka x'.ct.ks) (hs : (x'.wa = none → x'.wc = 0) ∧ (x'.ka = none → x'.kc = 0)) : Tq (w.setCell ⟨g, i * 7 + j, none⟩ u) B (.slice (some ⟨g, 0, none⟩) n c) (l.set i x') := by
 obtain ⟨cur, hc⟩ := h.row.typed (b := g) rfl
 have kw : ∀ y : Tg, Nw w B y.wa y.ct.ws → Nw (w.setCell ⟨g, i * 7 + j, none⟩ u) B y.wa y.ct.ws := fun y hy => nw_blk hy fun p hp => heap_setCell_other _ _ _ _ (fun e9 => by
  obtain ⟨c2, k2⟩ := nw_typed hy hp
  simp only [] at e9
  rw [e9, hc] at k2
  cases k2)
 have kk : ∀ y : Tg, Ni w B y.ka y.ct.ks → Ni (w.setCell ⟨g, i * 7 + j, none⟩ u) B y.ka y.ct.ks := fun y hy => ni_blk hy fun p hp => heap_setCell_other _ _ _ _ (fun e9 => by
  obtain ⟨c2, k2⟩ := ni_typed hy hp
  simp only [] at e9
  rw [e9, hc] at k2
  cases k2)
 refine ⟨h.row.put hi hj e, fun y hy => ?_, fun y hy => ?_, fun y hy => ?_⟩
 ·rcases List.mem_or_eq_of_mem_set hy with h9 | h9
  ·exact kw y (h.wn y h9)
  ·rw [h9]; exact kw x' hw
 ·rcases List.mem_or_eq_of_mem_set hy with h9 | h9
  ·exact kk y (h.kn y h9)
  ·rw [h9]; exact kk x' hk
 ·rcases List.mem_or_eq_of_mem_set hy with h9 | h9
  ·exact h.sn y h9
  ·rw [h9]; exact hs
theorem Tq.rd {w : World} {B : Nat} {v : Value} {l : List Tg} (h : Tq w B v l) (hl : l.length ≤ 1048576) (hok : ∀ x ∈ l, okT x.ct) : ∃ a c, v = .slice a l.length c ∧ RdT w a l := by
 obtain ⟨a, c, e⟩ := h.row.form
 refine ⟨a, c, e, hl, ?_⟩
 by_cases h0 : l = []
 ·exact .inl h0
 ·right
  obtain ⟨x0, hx0⟩ : ∃ x0, l[0]? = some x0 := ⟨l[0]'(List.length_pos_iff.2 h0), List.getElem?_eq_getElem _⟩
  obtain ⟨g0, c0, e0, -⟩ := h.row.at hx0
  rw [e] at e0
  injection e0 with e1 e2 e3
  subst e1
  refine ⟨g0, 0, rfl, fun i x hi => ?_⟩
  obtain ⟨g, c1, e4, ht⟩ := h.row.at hi
  rw [e] at e4
  injection e4 with e5 e6 e7
  cases e5
  rw [Nat.zero_add]
  have hm := List.mem_of_getElem? hi
  obtain ⟨k1, k2, k3, k4, k5, k6, k7, k8, k9⟩ := hok x hm
  exact ⟨ht, (h.wn x hm).rd k6 k7, (h.kn x hm).rd k8 k9, k1, k2, k3, k4, k5⟩

structure Gr (w0 u : World) (β : Nat) (a : Option Addr) (c : Nat) (bs : List Nat) (da : Option Addr) (ds : List Dc) (v : Value) (l : List Tg) : Prop where
 r0 : Rr w0 β a c bs
 rr : Rr u β a c bs
 dw : Dw β w0 u
 dd : RdD u da ds
 tq : Tq u w0.heap.size v l
 hβ : β < w0.heap.size
 hd : ∀ p, da = some p → p.block ≠ β ∧ p.block < w0.heap.size
theorem Gr.draw {w0 u u' : World} {β : Nat} {a : Option Addr} {c : Nat} {bs : List Nat} {da : Option Addr} {ds : List Dc} {v : Value} {l : List Tg} (h : Gr w0 u β a c bs da ds v l) (hr : Rr u' β a c bs) (hd : Dw β u u') : Gr w0 u' β a c bs da ds v l :=
 ⟨h.r0, hr, h.dw.trans hd, h.dd.farB hd fun p hp => (h.hd p hp).1, h.tq.far hd h.hβ, h.hβ, h.hd⟩
theorem Gr.later {w0 u u' : World} {β : Nat} {a : Option Addr} {c : Nat} {bs : List Nat} {da : Option Addr} {ds : List Dc} {v : Value} {l : List Tg} (h : Gr w0 u β a c bs da ds v l) (hb : Below u.heap.size u u') : Gr w0 u' β a c bs da ds v l :=
 ⟨h.r0, h.rr.later hb, h.dw.trans (Dw.of hb), h.dd.later hb, h.tq.later hb, h.hβ, h.hd⟩
theorem Gr.size {w0 u : World} {β : Nat} {a : Option Addr} {c : Nat} {bs : List Nat} {da : Option Addr} {ds : List Dc} {v : Value} {l : List Tg} (h : Gr w0 u β a c bs da ds v l) : w0.heap.size ≤ u.heap.size := h.dw.size
theorem rdd_own {w u : World} {a : Option Addr} {ds : List Dc} {r : Option Nat} {B : Nat} (h : RdD w a ds) (hg : w.grownBy u r) (hr : ∀ k, r = some k → B ≤ k) (ha : ∀ p, a = some p → p.block < B) (hB : B ≤ w.heap.size) : RdD u a ds := by
 obtain ⟨h1, h2, h3⟩ := h
 refine ⟨h1, h2, ?_⟩
 rcases h3 with h3 | ⟨b2, o2, rfl, hc⟩
 ·exact .inl h3
 ·have hlt := ha _ rfl
  simp only [] at hlt
  have e : u.heap[b2]? = w.heap[b2]? := hg.block b2 (by omega) (fun e => by have := hr b2 e.symm; omega)
  exact .inr ⟨b2, o2, rfl, fun i d hi => ⟨by rw [World.cell?_of_block (a := ⟨b2, _, none⟩) e]; exact (hc i d hi).1, by rw [World.cell?_of_block (a := ⟨b2, _, none⟩) e]; exact (hc i d hi).2⟩⟩
theorem Gr.push {w0 u u' : World} {β : Nat} {a : Option Addr} {c : Nat} {bs : List Nat} {da : Option Addr} {ds : List Dc} {v v' : Value} {l : List Tg} {y : Tg} (h : Gr w0 u β a c bs da ds v l) (hy : Nw u w0.heap.size y.wa y.ct.ws) (hk : Ni u w0.heap.size y.ka y.ct.ks) (hs : (y.wa = none → y.wc = 0) ∧ (y.ka = none → y.kc = 0)) (hg : u.grownBy u' v.ownBlock) (ho : OT u' w0.heap.size v' (l ++ [y])) : Gr w0 u' β a c bs da ds v' (l ++ [y]) :=
 have hr : ∀ k, v.ownBlock = some k → w0.heap.size ≤ k := fun k e => (h.tq.row.lt e).1
 ⟨h.r0, Rr.far h.r0 h.rr hg hr, h.dw.own hg hr, rdd_own h.dd hg hr (fun p hp => (h.hd p hp).2) h.dw.size, h.tq.push hy hk hs hg ho, h.hβ, h.hd⟩
theorem Gr.cell {w0 u : World} {β b o : Nat} {a : Option Addr} {c : Nat} {bs : List Nat} {da : Option Addr} {ds : List Dc} {v : Value} {l : List Tg} (h : Gr w0 u β a c bs da ds v l) {cs : Array Value} (hb : Bz u b cs 119) (hb0 : w0.heap.size ≤ b) (hv : v.ownBlock ≠ some b) (x : Value) : Gr w0 (u.setCell ⟨b, o, none⟩ x) β a c bs da ds v l := by
 have hg : u.grownBy (u.setCell ⟨b, o, none⟩ x) (some b) := gsc u ⟨b, o, none⟩ x
 refine ⟨h.r0, Rr.far h.r0 h.rr hg (fun k e => by cases e; exact hb0), h.dw.own hg (fun k e => by cases e; exact hb0), rdd_own h.dd hg (fun k e => by cases e; exact hb0) (fun p hp => (h.hd p hp).2) h.dw.size, ⟨h.tq.row.move fun k hk => hg.block k (h.tq.row.lt hk).2 (fun e => by cases e; exact hv hk), fun y hy => nw_blk (h.tq.wn y hy) fun p hp => hg.block _ (nw_ltB (h.tq.wn y hy) hp).2 (fun e => ?_), fun y hy => ni_blk (h.tq.kn y hy) fun p hp => hg.block _ (ni_lt (h.tq.kn y hy) hp).2 (fun e => ?_), h.tq.sn⟩, h.hβ, h.hd⟩
 ·obtain ⟨c2, k2⟩ := nw_typed (h.tq.wn y hy) hp
  have e9 := Option.some.inj e
  unfold Bz at hb
  rw [e9, hb] at k2
  cases k2
 ·obtain ⟨c2, k2⟩ := ni_typed (h.tq.kn y hy) hp
  have e9 := Option.some.inj e
  unfold Bz at hb
  rw [e9, hb] at k2
  cases k2
theorem Gr.cellT {w0 u : World} {β b o : Nat} {a : Option Addr} {c : Nat} {bs : List Nat} {da : Option Addr} {ds : List Dc} {v : Value} {l : List Tg} (h : Gr w0 u β a c bs da ds v l) {cs : Array Value} (hb : Bz u b cs 28) (hb0 : w0.heap.size ≤ b) (x : Value) : Gr w0 (u.setCell ⟨b, o, none⟩ x) β a c bs da ds v l := by
 have hg : u.grownBy (u.setCell ⟨b, o, none⟩ x) (some b) := gsc u ⟨b, o, none⟩ x
 unfold Bz at hb
 refine ⟨h.r0, Rr.far h.r0 h.rr hg (fun k e => by cases e; exact hb0), h.dw.own hg (fun k e => by cases e; exact hb0), rdd_own h.dd hg (fun k e => by cases e; exact hb0) (fun p hp => (h.hd p hp).2) h.dw.size, ⟨h.tq.row.move fun k hk => hg.block k (h.tq.row.lt hk).2 (fun e => ?_), fun y hy => nw_blk (h.tq.wn y hy) fun p hp => hg.block _ (nw_ltB (h.tq.wn y hy) hp).2 (fun e => ?_), fun y hy => ni_blk (h.tq.kn y hy) fun p hp => hg.block _ (ni_lt (h.tq.kn y hy) hp).2 (fun e => ?_), h.tq.sn⟩, h.hβ, h.hd⟩
 ·obtain ⟨c2, k2⟩ := h.tq.row.typed hk
  have e9 := Option.some.inj e
  rw [e9, hb] at k2
  cases k2
 ·obtain ⟨c2, k2⟩ := nw_typed (h.tq.wn y hy) hp
  have e9 := Option.some.inj e
  rw [e9, hb] at k2
  cases k2
 ·obtain ⟨c2, k2⟩ := ni_typed (h.tq.kn y hy) hp
  have e9 := Option.some.inj e
  rw [e9, hb] at k2
  cases k2
theorem Gr.bz {w0 u u' : World} {β b : Nat} {a : Option Addr} {c : Nat} {bs : List Nat} {da : Option Addr} {ds : List Dc} {v : Value} {l : List Tg} (h : Gr w0 u β a c bs da ds v l) {cs : Array Value} (hb : Bz u b cs 28) (hg : u.grownBy u' v.ownBlock) : Bz u' b cs 28 := by
 unfold Bz at hb ⊢
 rw [hg.block b (lt_of_block hb) (fun e => by
  obtain ⟨c2, k2⟩ := h.tq.row.typed e.symm
  rw [hb] at k2
  cases k2)]
 exact hb

theorem oi_blk {w w' : World} {B n c : Nat} {a : Option Addr} {xs : List Int} (h : OI w B (.slice a n c) xs) (hk : ∀ p, a = some p → w'.heap[p.block]? = w.heap[p.block]?) : OI w' B (.slice a n c) xs := h.move fun b hb => by
 rcases h.2 with ⟨e, -⟩ | ⟨g, cap, cur, e, -⟩
 ·cases e
  cases hb
 ·cases e
  cases hb
  exact hk _ rfl
theorem oi_typ {w : World} {B n c : Nat} {a : Option Addr} {xs : List Int} (h : OI w B (.slice a n c) xs) {p : Addr} (hp : a = some p) : (∃ cur, w.heap[p.block]? = some (.cells cur 2 (0, 0))) ∧ B ≤ p.block ∧ p.block < w.heap.size := by
 rcases h.2 with ⟨e, -⟩ | ⟨g, cap, cur, e, hg, hh, -⟩
 ·cases e
  cases hp
 ·cases e
  cases hp
  exact ⟨⟨cur, hh⟩, hg, lt_of_block hh⟩

structure Ko (w : World) (B : Nat) (l : List Tg) : Prop where
 oi : ∀ x ∈ l, OI w B (.slice x.ka x.ct.ks.length x.kc) x.ct.ks
 dj : ∀ (i j : Nat) (x y : Tg) (p q : Addr), l[i]? = some x → l[j]? = some y → i ≠ j → x.ka = some p → y.ka = some q → p.block ≠ q.block
theorem Ko.nil (w : World) (B : Nat) : Ko w B [] := ⟨fun x hx => (by cases hx), fun i j x y p q h => by simp at h⟩
theorem Ko.move {w w' : World} {B : Nat} {l : List Tg} (h : Ko w B l) (hk : ∀ x ∈ l, ∀ p, x.ka = some p → w'.heap[p.block]? = w.heap[p.block]?) : Ko w' B l := ⟨fun x hx => oi_blk (h.oi x hx) (hk x hx), h.dj⟩
theorem Ko.low {w : World} {B B' : Nat} {l : List Tg} (h : Ko w B l) (hB : B' ≤ B) : Ko w B' l := ⟨fun x hx => oi_low (h.oi x hx) hB, h.dj⟩
theorem Ko.later {w w' : World} {B : Nat} {l : List Tg} (h : Ko w B l) (hb : Below w.heap.size w w') : Ko w' B l := h.move fun x hx p hp => hb.block _ (oi_typ (h.oi x hx) hp).2.2
theorem Ko.kept {w w' : World} {B : Nat} {l : List Tg} (h : Ko w B l) (hk : ∀ (k : Nat) (cur : Array Value), w.heap[k]? = some (.cells cur 2 (0, 0)) → w'.heap[k]? = w.heap[k]?) : Ko w' B l := h.move fun x hx p hp => by
 obtain ⟨⟨cur, hc⟩, -⟩ := oi_typ (h.oi x hx) hp
 exact hk _ cur hc
theorem Ko.far {w w' : World} {B β : Nat} {l : List Tg} (h : Ko w B l) (hd : Dw β w w') (hβ : β < B) : Ko w' B l := h.move fun x hx p hp => by
 obtain ⟨-, h1, h2⟩ := oi_typ (h.oi x hx) hp
 exact hd.block _ h2 (fun e => by cases e; omega)
theorem Ko.grown {w w' : World} {B B' : Nat} {v : Value} {l l' : List Tg} (h : Ko w B l) (ho : OT w B' v l') (hg : w.grownBy w' v.ownBlock) : Ko w' B l := h.kept fun k cur hc => hg.block k (lt_of_block hc) (fun e => by
 obtain ⟨c2, k2⟩ := ho.typed e.symm
 rw [hc] at k2
 cases k2)
theorem Ko.out {w wr wr' : World} {B H g : Nat} {v tv : Value} {l : List Tg} {st : List Tc × List Int} (h : Ko wr B l) (hm : RpM w wr B H v tv l st) (hg : wr.grownBy wr' (some g)) (hN : H ≤ g) : Ko wr' B l := h.move fun x hx p hp => hg.block _ (oi_typ (h.oi x hx) hp).2.2 (fun e => by have := (hm.nd x hx).kh p hp; cases e; omega)
theorem Ko.told {w wt w5 : World} {B H : Nat} {v tv : Value} {l : List Tg} {st : List Tc × List Int} (h : Ko wt B l) (hm : RpM w wt B H v tv l st) (hg : wt.grownBy w5 tv.ownBlock) : Ko w5 B l := h.move fun x hx p hp => hg.block _ (oi_typ (h.oi x hx) hp).2.2 (fun e => (hm.nd x hx).dj p hp e.symm)
theorem Ko.snoc {w : World} {B : Nat} {l : List Tg} {y : Tg} (h : Ko w B l) (hy : OI w B (.slice y.ka y.ct.ks.length y.kc) y.ct.ks) (hd : ∀ x ∈ l, ∀ p q, x.ka = some p → y.ka = some q → p.block ≠ q.block) : Ko w B (l ++ [y]) := by
 refine ⟨fun x hx => ?_, fun i j x z p q hi hj hne hp hq => ?_⟩
 ·rcases List.mem_append.1 hx with hx | hx
  ·exact h.oi x hx
  ·cases List.mem_singleton.1 hx
   exact hy
 ·have key : ∀ (k : Nat) (u : Tg), (l ++ [y])[k]? = some u → (l[k]? = some u ∨ (k = l.length ∧ u = y)) := fun k u hk => by
   rcases Nat.lt_trichotomy k l.length with h1 | h1 | h1
   ·rw [List.getElem?_append_left h1] at hk
    exact .inl hk
   ·subst h1
    simp at hk
    exact .inr ⟨rfl, hk.symm⟩
   ·rw [List.getElem?_append_right (by omega)] at hk
    rw [List.getElem?_eq_none (by simp; omega)] at hk
    cases hk
  rcases key i x hi with h1 | ⟨h1, rfl⟩ <;> rcases key j z hj with h2 | ⟨h2, rfl⟩
  ·exact h.dj i j x z p q h1 h2 hne hp hq
  ·exact hd x (List.mem_of_getElem? h1) p q hp hq
  ·exact fun e => hd z (List.mem_of_getElem? h2) q p hq hp e.symm
  ·omega

end Go.Proofs.YtkngpgonmedgpaaGreatDoor
