/- Drawn nodes: l3Grow. -/
import Derived.Test.YtffcklobignlfaaGAR
namespace Go.Proofs.Ytffcklobignlfaa
set_option linter.unusedVariables false
set_option linter.unusedSimpArgs false
open Go.RowKit
def LF (w : World) (β : Nat) (a : Option Addr) (c : Nat) (bs : List Nat) (db do' : Nat) (ds : List Dc) (dc n : Nat) (want : Int) (av : Option Addr) (cv : Nat) (l : List Tg) (top wide : Int) (m' lb N x : Nat) (a' : Act) (w' : World) : Prop := ∃ (op vr bw : Int) (wa : Option Addr) (wn wc wl : Nat) (ws : List Nat), (∃ u : Nat → Value, a' = ({ tmps := #[.pointer (some ⟨β, 0, none⟩), .slice (some ⟨db, do', none⟩) n dc, .int .i64 want, undef, undef, undef, .pointer (some ⟨w.heap.size, 0, none⟩), .slice av l.length cv, .int .i64 top, .int .i64 wide, .int .i64 ((m' : Int) + 1), .pointer (some ⟨lb, 0, none⟩), .int .i64 (wl : Int), u 13, u 14, undef, .slice (some ⟨w.heap.size + 1, 0, none⟩) 0 0, .pointer (some ⟨β, 0, none⟩), .pointer (some ⟨β, 0, none⟩), .pointer (some ⟨β, 0, none⟩), .pointer (some ⟨β, 0, none⟩), .slice a N c, .int .i64 (N : Int), .int .i64 ((N : Int) / 12), .int .i64 (2 + (N : Int) / 12), .int .i64 (min 7 (2 + (N : Int) / 12)), .int .i64 (x : Int), .int .i64 (1 + (x : Int)), u 28, u 29, u 30, u 31, u 32, u 33, u 34, u 35, u 36, u 37, u 38, u 39, u 40, u 41, u 42, u 43, u 44, u 45, u 46, u 47, u 48, u 49, u 50, u 51, u 52, u 53, u 54, u 55, u 56, u 57, u 58, u 59, u 60, u 61, u 62, u 63, u 64, u 65, u 66, u 67, u 68, u 69, u 70, u 71, u 72, u 73, u 74, u 75, u 76, u 77, u 78, u 79, u 80, u 81, u 82, u 83, u 84, u 85, u 86, u 87, u 88, u 89, u 90, u 91, u 92, u 93, u 94, u 95, u 96, u 97, u 98, u 99, u 100, u 101, u 102, u 103, u 104, u 105, u 106, u 107, u 108, u 109, u 110, u 111, u 112, u 113, u 114, u 115, u 116, u 117, u 118, u 119, u 120, u 121, u 122, u 123, u 124, u 125, u 126, u 127, u 128, u 129, u 130, u 131, u 132, u 133, u 134, u 135, u 136, u 137, u 138, u 139, u 140, u 141, u 142, u 143, u 144, u 145, u 146, u 147, u 148, u 149, u 150, u 151, undef, undef, undef, undef, undef, undef, undef, undef, undef, undef, undef, undef, undef, undef, undef, undef, undef, undef], defers := [] } : Act)) ∧ Gr w w' β a c bs (some ⟨db, do', none⟩) ds (.slice av l.length cv) l ∧ Bz w' w.heap.size #[.slice none 0 0] 66 ∧ Bz w' lb #[.int .i64 op, .int .i64 vr, .int .i64 0, .int .i64 0, .int .i64 bw, .slice wa wn wc, .slice none 0 0] 88 ∧ Nw w' w.heap.size wa ws ∧ (wa = none → wc = 0) ∧ ws.length = wn ∧ okQ ⟨op, vr, 0, 0, bw, ws, []⟩ ∧ 1 ≤ (wl : Int) ∧ (wl : Int) ≤ 200
set_option maxHeartbeats 40000000 in
set_option maxRecDepth 100000 in
theorem l3Grow_any (β : Nat) (a : Option Addr) (c : Nat) (bs : List Nat) (da : Option Addr) (dc n : Nat) (ds : List Dc) (want : Int) (w : World) (hr : Rr w β a c bs) (hd : RdD w da ds) (hβ : ∀ p, da = some p → p.block ≠ β ∧ p.block < w.heap.size) (hn : ds.length = n) (h1 : 1 ≤ n) (h6 : n ≤ 6) (hw : ∀ x ∈ ds, 1 ≤ x.2 ∧ x.2 ≤ 200) (hv1 : -5000 ≤ want) (hv2 : want ≤ 5000) :
  Calls Try.prog 31 #[.pointer (some ⟨β, 0, none⟩), .slice da n dc, .int .i64 want] w (RetG3 β a c bs w) := by
 have hlt := hr.lt
 have hlb : bs.length ≤ 4194304 := by obtain ⟨p, hp, hk, hb, -⟩ := hr; exact hb.1
 have G0 : Hid (Gr w ((w.alloc (.cells #[.slice none 0 0] 66)).alloc (.cells #[] 88)) β a c bs da ds (.slice (some ⟨w.heap.size + 1, 0, none⟩) 0 0) []) := by
  have hb : Below w.heap.size w ((w.alloc (.cells #[.slice none 0 0] 66)).alloc (.cells #[] 88)) := ((Below.refl _ _).alloc (Nat.le_refl _) _).alloc (by simp) _
  have ht := Tq.empty (w.alloc (.cells #[.slice none 0 0] 66)) w.heap.size (by simp)
  rw [World.size_alloc] at ht
  exact ⟨hr, hr.later hb, Dw.of hb, hd.later hb, ht, hlt, hβ⟩
 have B0 : Hid (Bz ((w.alloc (.cells #[.slice none 0 0] 66)).alloc (.cells #[] 88)) w.heap.size #[.slice none 0 0] 66) := (Bz.new w #[.slice none 0 0] 66).later ((Below.refl _ _).alloc (Nat.le_refl _) _)
 have HN := kide hn
 have HW := kide hw
 have c0 := G0.out.rr.slice
 clear hr hd hβ hn hw
 obtain ⟨N, hN⟩ : ∃ N, bs.length = N := ⟨_, rfl⟩
 rw [hN] at c0 hlb
 go_enter Try.func31, Try.ntmps31
 go_wp2_with fail

 refine Calls.mono (belowI (min 7 (2 + (N : Int) / 12)) (by omega) (by omega) β a c bs _ G0.out.rr) ?_
 rintro e w1 ⟨x, rfl, hx, hr1, hd1⟩
 have G1 := kide (G0.out.draw hr1 hd1)
 have B1 : Hid (Bz w1 w.heap.size #[.slice none 0 0] 66) := B0.out.far hd1 (by omega)
 have hx7 : x ≤ 6 := by omega
 have c1 := G1.out.rr.slice
 rw [hN] at c1
 clear hr1 hd1 hx G0 B0 c0
 go_wp2_with fail

 refine loop_cut (k := 0) (LG w β a c bs da ds dc n want) ?_ ?_
 case refine_2 =>
  rintro a' w2 ⟨v, l, top, wide, ⟨u, rfl⟩, hg2, hb2, hpl⟩
  have G2 := kide hg2
  have BB2 := kide hb2
  obtain ⟨root, rfl⟩ : ∃ root : Nat, top = (root : Int) := ⟨top.toNat, by have := hpl.lo; omega⟩
  have hroot : root < l.length := by have := hpl.hi; omega
  obtain ⟨av, cv, rfl, hrt⟩ := hg2.tq.rd (by have := hpl.len; omega) (fun x hx => (hpl.ok x hx).1)
  have HPR := kide (l3PruneK_any av cv l.length root l w2 hrt rfl hg2.tq.sn hpl.ah (by have := hpl.len; omega) hroot)
  have hXp := prR_pos (ns := l.map Tg.ct) (root := root) (by rw [List.length_map]; exact hroot)
  have hXk := pk_ok (us := usedL (l.map Tg.ct) root) (ns := l.map Tg.ct) (fun n hn => by obtain ⟨x, hx, rfl⟩ := List.mem_map.1 hn; exact (hpl.ok x hx).1) (by rw [List.length_map]; have := hpl.len; omega) hpl.ah _ (Nat.le_refl _)
  have hXk' : ∀ n ∈ prR (l.map Tg.ct) root, okQ n := fun n hn => ⟨hXk n hn, pk_few (fun m hm => by obtain ⟨x, hx, rfl⟩ := List.mem_map.1 hm; exact (hpl.ok x hx).2) _ (Nat.le_refl _) n hn⟩
  rw [List.length_map] at hXp
  have hl14 := hpl.len
  generalize prR (l.map Tg.ct) root = X at *
  clear hg2 hb2 hrt hXk hpl
  go_wp2_with fail
  refine Calls.mono HPR.out ?_
  rintro e w3 ⟨a3, c3, l3, rfl, hr3, hs3, hm3, hb3, ho3, hn3, hko3⟩
  have K3 : Hid (KoQ w3 w.heap.size l3) := hko3.low G2.out.size
  have G3 : Hid (Gr w w3 β a c bs da ds (.slice a3 X.length c3) l3) := by
   have hz := G2.out.size
   have h := G2.out.later hb3
   exact ⟨h.r0, h.rr, h.dw, h.dd, ⟨ot_low ho3 hz, fun x hx => (hn3 x hx).1.mono hz, fun x hx => (hn3 x hx).2.mono hz, hs3⟩, h.hβ, h.hd⟩
  have BB3 := kide (BB2.out.later hb3)
  have R3 := kide hr3
  have hl3 : l3.length = X.length := by rw [← hm3, List.length_map]
  have hk3 : Hid (∀ x ∈ l3, okQ x.ct) := fun x hx => hXk' x.ct (by rw [← hm3]; exact List.mem_map_of_mem hx)
  have hwb := wid_bounds ds (l3.map Tg.ct)
  obtain ⟨m, hm⟩ : ∃ m, X.length = m := ⟨_, rfl⟩
  rw [hm] at G3 hl3 hXp ⊢
  clear hr3 hs3 hm3 hb3 ho3 hn3 hko3 hXk' hm HPR G2 BB2
  have hz3 := G3.out.size
  have BA : Hid (Below w3.heap.size w3 (w3.alloc (Obj.cells #[.slice a3 m c3] 66))) := (Below.refl _ _).alloc (Nat.le_refl _) _
  have TB : Hid (Bz (w3.alloc (Obj.cells #[.slice a3 m c3] 66)) w3.heap.size #[.slice a3 m c3] 66) := Bz.new _ _ _
  have G4 := kide (G3.out.later BA.out)
  have K4 := kide (K3.out.later BA.out)
  have BB4 := kide (BB3.out.later BA.out)
  have R4 := kide (R3.out.later BA.out)
  obtain ⟨tb, htb⟩ : ∃ tb, w3.heap.size = tb := ⟨_, rfl⟩
  rw [htb] at TB hz3
  have r0 := BB4.out.cell 0
  have r1 := BB4.out.froz 0
  have t0 := TB.out.cell 0
  have t1 := TB.out.froz 0
  simp at r0 t0
  have htw : tb ≠ w.heap.size := by have := BB3.out.lt; omega
  by_cases hwant : want > 0
  ·have HWO : Hid (Calls Try.prog 48 #[.slice da n dc, .agg #[.slice a3 m c3]] (w3.alloc (Obj.cells #[.slice a3 m c3] 66)) fun e w' => e = .returned (.int .i64 (widR ds (l3.map Tg.ct))) ∧ Below (w3.alloc (Obj.cells #[.slice a3 m c3] 66)).heap.size (w3.alloc (Obj.cells #[.slice a3 m c3] 66)) w') := by
    have h := specWidth_any da a3 dc c3 m ds l3 _ G4.out.dd R4.out hl3
    rw [HN.out] at h
    exact h
   generalize widR ds (l3.map Tg.ct) = wd at *
   go_wp2_with fail
   generalize w3.alloc (Obj.cells #[.slice a3 m c3] 66) = w4 at *
   refine Calls.mono HWO.out ?_
   rintro e w5 ⟨rfl, hb5⟩
   have G5 := kide (G4.out.later hb5)
   have K5 := kide (K4.out.later hb5)
   have BB5 := kide (BB4.out.later hb5)
   have TB5 := kide (TB.out.later hb5)
   clear hb5 r0 r1 t0 t1 HWO
   go_wp2_with fail
   refine Calls.mono (l3Fit_any w w5 β a c bs da ds _ l3 ((m : Int) - 1) wd want G5.out (by omega) (by unfold in64; omega) (by omega) (by omega) hv1 hv2) ?_
   rintro e w6 ⟨v6, l6, rfl, hg6, hl6, hk6, hko6⟩
   have K6 := kide (hko6 _ G5.out.size K5.out)
   have G6 := kide hg6
   have BB6 := kide (hk6 _ _ BB5.out)
   have TB6 := kide (hk6 _ _ TB5.out)
   obtain ⟨a6, c6, hv6⟩ := hg6.bel
   have hL6 : Hid (1 ≤ l6.length ∧ l6.length ≤ 20 ∧ ∀ x ∈ l6, okQ x.ct) := by
    rcases hl6 with rfl | ⟨y, rfl, hy⟩
    ·exact ⟨by omega, by omega, hk3.out⟩
    ·refine ⟨by simp, by simp; omega, fun x hx => ?_⟩
     rcases List.mem_append.1 hx with hx | hx
     ·exact hk3.out x hx
     ·simp at hx; subst hx; exact hy
   subst hv6
   have r0 := BB6.out.cell 0
   have r1 := BB6.out.froz 0
   have t0 := TB6.out.cell 0
   have t1 := TB6.out.froz 0
   simp at r0 t0
   have T7 : Hid (Bz (w6.setCell ⟨tb, 0, none⟩ (.slice a6 l6.length c6)) tb #[.slice a6 l6.length c6] 66) := TB6.out.set 0 _
   have R7 : Hid (Bz (w6.setCell ⟨tb, 0, none⟩ (.slice a6 l6.length c6)) w.heap.size #[.slice none 0 0] 66) := BB6.out.other (Ne.symm htw) 0 _
   have G7 := kide (G6.out.cellT (o := 0) TB6.out hz3 (.slice a6 l6.length c6))
   have s0 := R7.out.cell 0
   have s1 := R7.out.froz 0
   have s2 := T7.out.cell 0
   simp only [List.getElem?_toArray, List.getElem?_cons_zero] at s0 s2
   have G8 := kide (G7.out.cellT (o := 0) R7.out (Nat.le_refl _) (.slice a6 l6.length c6))
   have K8 := kide ((K6.out.cellT (o := 0) TB6.out (.slice a6 l6.length c6)).cellT (o := 0) R7.out (.slice a6 l6.length c6))
   have s3 := (R7.out.set 0 (.slice a6 l6.length c6)).cell 0
   simp at s3
   clear hg6 hl6 hk6 hko6
   go_wp2_with fail
   refine bodyPost_ret (v := .agg #[.slice a6 l6.length c6]) (by simp [results, Try.results31, go_sem, s3]) rfl ?_
   exact ⟨_, l6, rfl, G8.out.tq, hL6.out.1, hL6.out.2.1, hL6.out.2.2, G8.out.rr, G8.out.dw, K8.out⟩
  ·have G8 := kide (G4.out.cellT (o := 0) BB4.out (Nat.le_refl _) (.slice a3 m c3))
   have K8 := kide (K4.out.cellT (o := 0) BB4.out (.slice a3 m c3))
   have s3 := (BB4.out.set 0 (.slice a3 m c3)).cell 0
   simp at s3
   go_wp2_with fail
   refine bodyPost_ret (v := .agg #[.slice a3 m c3]) (by simp [results, Try.results31, go_sem, s3]) rfl ?_
   exact ⟨_, l3, rfl, G8.out.tq, by omega, by omega, hk3.out, G8.out.rr, G8.out.dw, K8.out⟩

 have P0 : Hid (PM (1 + x) [] (-1) 0) := ⟨by omega, by simp; omega, by simp, by intro k n h; simp at h, .inl ⟨rfl, rfl, by omega⟩⟩
 have e0 : (1 : Int) + (x : Int) = ((1 + x : Nat) : Int) := by omega
 rw [e0]
 go_loopw [7, 8, 9, 10] (fun v t d q wr => ∃ (m : Nat) (l : List Tg) (top wide : Int), q = .int .i64 (m : Int) ∧ t = .int .i64 top ∧ d = .int .i64 wide ∧ Gr w wr β a c bs da ds v l ∧ Bz wr w.heap.size #[.slice none 0 0] 66 ∧ PM m l top wide) (fun _ _ _ q _ => (intOf q).toNat)
 case atStart => exact ⟨1 + x, [], -1, 0, rfl, rfl, rfl, G1.out, B1.out, P0.out⟩
 case round =>
  obtain ⟨m, l, top, wide, rfl, rfl, rfl, hg, hb, hpm⟩ := hrel
  obtain ⟨av, cv, rfl⟩ := hg.bel
  have HG := kide hg
  have HB := kide hb
  clear hg hb G1 B1 P0 e0 hx7 c1
  by_cases hm0 : m = 0
  ·subst hm0
   have hi0 : ¬ ((0 : Nat) : Int) > 0 := by omega
   go_wp2_with fail
   refine ⟨_, l, top, wide, act_u (by kernel_rfl), HG.out, HB.out, ⟨by have := hpm.len; omega, hpm.ok, hpm.ah, ?_, ?_⟩⟩
   ·rcases hpm.at' with h | h <;> omega
   ·rcases hpm.at' with h | h <;> omega
  ·obtain ⟨m', rfl⟩ : ∃ m', m = m' + 1 := ⟨m - 1, by omega⟩
   have i0 : ((m' + 1 : Nat) : Int) > 0 := by omega
   have hm7 : m' ≤ 6 := by have := hpm.m7; omega
   have hll : l.length ≤ 12 := by have := hpm.len; omega
   go_wp2_with fail

   refine Calls.mono (below_any n (by omega) β a c bs wr HG.out.rr) ?_
   rintro e w1 ⟨vx, rfl, hvx, hr1, hd1⟩
   have G1 := kide (HG.out.draw hr1 hd1)
   have B1 : Hid (Bz w1 w.heap.size #[.slice none 0 0] 66) := HB.out.far hd1 (by omega)
   have hvn : vx < n := by omega
   have i1 : (vx : Int) < (n : Int) := by omega
   obtain ⟨d, gd⟩ : ∃ d, ds[vx]? = some d := ⟨ds[vx]'(by rw [HN.out]; exact hvn), List.getElem?_eq_getElem _⟩
   have hdw := HW.out d (List.mem_of_getElem? gd)
   obtain ⟨wl, hwl⟩ : ∃ wl : Nat, d.2 = (wl : Int) := ⟨d.2.toNat, by omega⟩
   rw [hwl] at hdw
   have BA : Hid (Below w1.heap.size w1 (w1.alloc (Obj.cells #[.int .i64 1, .int .i64 (vx : Int), .int .i64 0, .int .i64 0, .int .i64 0, .slice none 0 0, .slice none 0 0] 88))) := (Below.refl _ _).alloc (Nat.le_refl _) _
   have G2 := kide (G1.out.later BA.out)
   have B2 := kide (B1.out.later BA.out)
   have LB : Hid (Bz (w1.alloc (Obj.cells #[.int .i64 1, .int .i64 (vx : Int), .int .i64 0, .int .i64 0, .int .i64 0, .slice none 0 0, .slice none 0 0] 88)) w1.heap.size #[.int .i64 1, .int .i64 (vx : Int), .int .i64 0, .int .i64 0, .int .i64 0, .slice none 0 0, .slice none 0 0] 88) := Bz.new _ _ _
   have hlbv : Hid ((Value.slice av l.length cv).ownBlock ≠ some w1.heap.size) := fun e => by have := (G1.out.tq.row.lt e).2; omega
   have hl1 : w.heap.size < w1.heap.size := B1.out.lt
   obtain ⟨db, do', hda, ⟨dq0, dq1⟩⟩ : ∃ db do', da = some ⟨db, do', none⟩ ∧ (w1.alloc (Obj.cells #[.int .i64 1, .int .i64 (vx : Int), .int .i64 0, .int .i64 0, .int .i64 0, .slice none 0 0, .slice none 0 0] 88)).cell? ⟨db, do' + vx * 2, none⟩ = some (.string d.1) ∧ (w1.alloc (Obj.cells #[.int .i64 1, .int .i64 (vx : Int), .int .i64 0, .int .i64 0, .int .i64 0, .slice none 0 0, .slice none 0 0] 88)).cell? ⟨db, do' + vx * 2 + 1, none⟩ = some (.int .i64 d.2) := by
    obtain ⟨-, -, h | ⟨db, do', e, hc⟩⟩ := G2.out.dd
    ·rw [h] at gd; simp at gd
    ·exact ⟨db, do', e, hc vx d gd⟩
   subst hda
   rw [hwl] at dq1
   have l0 := LB.out.cell 1
   simp at l0
   clear hr1 hd1 hvx gd
   go_wp2_with fail

   refine Calls.mono (once_any 5 (by omega) (by omega) β a c bs _ G2.out.rr) ?_
   rintro e w3 ⟨ob, rfl, hr3, hd3⟩
   have G3 := kide (G2.out.draw hr3 hd3)
   have B3 : Hid (Bz w3 w.heap.size #[.slice none 0 0] 66) := B2.out.far hd3 (by omega)
   have LB3 : Hid (Bz w3 w1.heap.size _ 88) := LB.out.far hd3 (by omega)
   clear hr3 hd3 dq0 dq1 l0 LB B2 G2 BA
   obtain ⟨lb, hlb0⟩ : ∃ lb, w1.heap.size = lb := ⟨_, rfl⟩
   rw [hlb0] at LB3 hlbv hl1 ⊢
   simp only []
   iterate 4 go_step
   refine code_cut (LF w β a c bs db do' ds dc n want av cv l top wide m' lb N x) ?_ ?_
   ·cases ob with
    | false =>
     go_wp2_with fail
     refine ⟨1, (vx : Int), 0, none, 0, 0, wl, [], act_u (by kernel_rfl), G3.out, B3.out, LB3.out, nw_none _ _, fun _ => rfl, rfl, ?_, hdw.1, hdw.2⟩
     refine ⟨⟨?_, ?_, ?_, ?_, ?_, ?_, ?_, ?_, ?_⟩, ?_⟩ <;> simp [in64] <;> omega
    | true =>
     go_wp2_with fail
     refine Calls.mono (below_any 6 (by omega) β a c bs _ G3.out.rr) ?_
     rintro e w4 ⟨wl2, rfl, hwl2, hr4, hd4⟩
     have G4 := kide (G3.out.draw hr4 hd4)
     have B4 : Hid (Bz w4 w.heap.size #[.slice none 0 0] 66) := B3.out.far hd4 (by omega)
     have LB4 : Hid (Bz w4 lb _ 88) := LB3.out.far hd4 (by omega)
     clear hr4 hd4 LB3 B3 G3
     go_wp2_with fail
     refine Calls.mono (bitsI (1 + (wl2 : Int)) (by omega) (by omega) β a c bs _ G4.out.rr) ?_
     rintro e wq ⟨wa, wn, ws, rfl, hwn, hwn64, hws, hnw, hwa0, hr5, hd5⟩
     have G5 := kide (G4.out.draw hr5 hd5)
     have B5 : Hid (Bz wq w.heap.size #[.slice none 0 0] 66) := B4.out.far hd5 (by omega)
     have hz4 := G4.out.size
     obtain ⟨wl, hwl9⟩ : ∃ wl : Nat, 1 + (wl2 : Int) = (wl : Int) := ⟨1 + wl2, by omega⟩
     rw [hwl9]
     have L0 : Hid (Bz wq lb #[.int .i64 1, .int .i64 (vx : Int), .int .i64 0, .int .i64 0, .int .i64 0, .slice none 0 0, .slice none 0 0] 88) := LB4.out.far hd5 (by omega)
     have NW0 := kide (hnw.mono hz4)
     have f0 := L0.out.froz 0
     have f1 := L0.out.froz 1
     have f2 := L0.out.froz 2
     have f3 := L0.out.froz 3
     have f4 := L0.out.froz 4
     have f5 := L0.out.froz 5
     have f6 := L0.out.froz 6
     have c0 := L0.out.cell 0
     have c1 := L0.out.cell 1
     have c2 := L0.out.cell 2
     have c3 := L0.out.cell 3
     have c4 := L0.out.cell 4
     have c5 := L0.out.cell 5
     have c6 := L0.out.cell 6
     simp only [List.getElem?_toArray, List.getElem?_cons_zero, List.getElem?_cons_succ] at c0 c1 c2 c3 c4 c5 c6
     have hdw : 1 ≤ (wl : Int) ∧ (wl : Int) ≤ 200 := by omega
     have HWA := kide hwa0
     have HWQ := kide hwn
     have HWS := kide hws
     clear hwn hnw hr5 hd5 hwl9 hwa0 hws G4 B4 LB4
     go_wp2_with fail
     refine ⟨2, 0, (wl : Int), wa, wn, wn, wl, ws, act_u (by kernel_rfl), ?_, ?_, ?_, ?_, HWA.out, HWQ.out, ?_, hdw.1, hdw.2⟩
     ·have h := G5.out.put7 L0.out (by omega) hlbv.out (.int .i64 2) (.int .i64 0) (.int .i64 0) (.int .i64 0) (.int .i64 (wl : Int)) (.slice wa wn wn) (.slice none 0 0); unfold put7 at h; exact h
     ·have h := put7_bz (b := lb) B5.out (by omega) (.int .i64 2) (.int .i64 0) (.int .i64 0) (.int .i64 0) (.int .i64 (wl : Int)) (.slice wa wn wn) (.slice none 0 0); unfold put7 at h; exact h
     ·have h := put7_box L0.out (.int .i64 2) (.int .i64 0) (.int .i64 0) (.int .i64 0) (.int .i64 (wl : Int)) (.slice wa wn wn) (.slice none 0 0); unfold put7 at h; exact h
     ·have h := put7_nw NW0.out L0.out (.int .i64 2) (.int .i64 0) (.int .i64 0) (.int .i64 0) (.int .i64 (wl : Int)) (.slice wa wn wn) (.slice none 0 0); unfold put7 at h; exact h
     ·refine ⟨⟨?_, ?_, ?_, ?_, ?_, ?_, ?_, ?_, ?_⟩, ?_⟩ <;> simp [in64] <;> first | omega | exact HWS.out | (have := HWQ.out; omega)
   ·clear hwl hdw G3 B3 LB3 i1 hvn G1 B1
    clear wl
    rintro a' w3 ⟨op, vr, bw, wa, wn, wc, wl, ws, ⟨u, rfl⟩, hGL, hBL, hLB, hLW, hLS, hWN, hLO, hdw1, hdw2⟩
    have hdw : 1 ≤ (wl : Int) ∧ (wl : Int) ≤ 200 := ⟨hdw1, hdw2⟩
    have GL := kide hGL
    have BL := kide hBL
    have LBx := kide hLB
    have HLw := kide hLW
    have HLs := kide hLS
    have HWN := kide hWN
    have HLo := kide hLO
    clear hGL hBL hLB hLW hLS hWN hLO
    by_cases htop : top < 0
    ·obtain rfl : l = [] := by rcases hpm.at' with h | h; exact h.2.1; omega
     have BA : Hid (Below w3.heap.size w3 (w3.alloc (Obj.cells #[.int .i64 op, .int .i64 vr, .int .i64 0, .int .i64 0, .int .i64 bw, .slice wa wn wc, .slice none 0 0] 88))) := (Below.refl _ _).alloc (Nat.le_refl _) _
     have GA := kide (GL.out.later BA.out)
     have BBA := kide (BL.out.later BA.out)
     have hzA : w.heap.size ≤ w3.heap.size := GL.out.size
     have AZ : Hid (Bz (w3.alloc (Obj.cells #[.int .i64 op, .int .i64 vr, .int .i64 0, .int .i64 0, .int .i64 bw, .slice wa wn wc, .slice none 0 0] 88)) w3.heap.size #[.int .i64 op, .int .i64 vr, .int .i64 0, .int .i64 0, .int .i64 bw, .slice wa wn wc, .slice none 0 0] 88) := by
      have h := Bz.new w3 #[.int .i64 op, .int .i64 vr, .int .i64 0, .int .i64 0, .int .i64 bw, .slice wa wn wc, .slice none 0 0] 88
      have e : w3.heap.size = w3.heap.size := by first | rfl | exact put7_size _ _ _ _ _ _ _ _ _ | (simp; done)
      rw [e] at h
      exact h
     have l0 := LBx.out.cell 0
     have l1 := LBx.out.cell 1
     have l2 := LBx.out.cell 2
     have l3 := LBx.out.cell 3
     have l4 := LBx.out.cell 4
     have l5 := LBx.out.cell 5
     have l6 := LBx.out.cell 6
     simp only [List.getElem?_toArray, List.getElem?_cons_zero, List.getElem?_cons_succ] at l0 l1 l2 l3 l4 l5 l6
     go_wp2_with (at_builtin; refine wpList_appT7 rfl _ _ rfl w.heap.size _ [] (⟨⟨op, vr, 0, 0, bw, ws, []⟩, wa, wc, none, 0⟩ : Tg) rfl GA.out.tq.row _ _ rfl (by have h := AZ.out; have e := HWN.out; refine ⟨h.cell 0, h.cell 1, h.cell 2, h.cell 3, h.cell 4, ?_, h.cell 6⟩; show _ = some (Value.slice wa ws.length wc); rw [e]; exact h.cell 5) (by simp) (by simp at hzA ⊢; omega) ?_)
     intro g cap w7 ho hg _
     have G7 := kide (GA.out.push (HLw.out.later BA.out) (ni_none _ _) ⟨HLs.out, fun _ => rfl⟩ hg ho)
     have B7 := kide (GA.out.bz BBA.out hg)
     have P7 : Hid (PM m' ([] ++ [(⟨⟨op, vr, 0, 0, bw, ws, []⟩, wa, wc, none, 0⟩ : Tg)]) 0 (wl : Int)) := by
      have h1 := hpm.m7
      refine ⟨by omega, by simp; omega, fun x hx => by simp at hx; subst hx; exact HLo.out, ?_, .inr ⟨by omega, by simp, by omega, by omega⟩⟩
      intro k n h j hj
      have : (List.map Tg.ct ([] ++ [(⟨⟨op, vr, 0, 0, bw, ws, []⟩, wa, wc, none, 0⟩ : Tg)])) = [⟨op, vr, 0, 0, bw, ws, []⟩] := rfl
      rw [this] at h
      match k, h with
      | 0, h => simp at h; subst h; simp at hj
      | k + 1, h => simp at h
     clear ho hg l0 l1 l2 l3 l4 l5 l6
     go_wp2_with fail
     refine ⟨?_, ?measure⟩
     iterate 80 (apply Exists.intro)
     (repeat apply Exists.intro)
     refine ⟨?rel, rfl⟩
     case rel => exact ⟨m', _, 0, (wl : Int), by first | rfl | go_num, rfl, rfl, G7.out, B7.out, P7.out⟩
     case measure => first | (simp [intOf]; done) | (simp [intOf]; omega) | (rw [show wrap64 (m' : Int) = (m' : Int) by unfold wrap64; omega]; simp [intOf])
    ·obtain ⟨htop0, htop1, hwd1, hwd2⟩ : 0 ≤ top ∧ top < (l.length : Int) ∧ 1 ≤ wide ∧ wide ≤ 200 := by rcases hpm.at' with h | h; omega; exact h
     obtain ⟨wd, rfl⟩ : ∃ wd : Nat, wide = (wd : Int) := ⟨wide.toNat, by omega⟩
     go_wp2_with fail
     refine Calls.mono (near_any 3 9 (by omega) (by omega) β a c bs _ GL.out.rr) ?_
     rintro e w5 ⟨ox, rfl, hx3, hx9, hr5, hd5⟩
     have G5 := kide (GL.out.draw hr5 hd5)
     have B5 : Hid (Bz w5 w.heap.size #[.slice none 0 0] 66) := BL.out.far hd5 (by omega)
     have LB5 : Hid (Bz w5 lb _ 88) := LBx.out.far hd5 (by omega)
     have LW5 := kide (nw_far HLw.out hd5 hlt)
     obtain ⟨kb, hkb⟩ : ∃ kb, w5.heap.size = kb := ⟨_, rfl⟩
     have BA : Hid (Below w5.heap.size w5 ((w5.alloc (Obj.cells #[.int .i64 top] 2)).alloc (Obj.cells #[.int .i64 (ox : Int), .int .i64 0, .int .i64 0, .int .i64 0, .int .i64 0, .slice none 0 0, .slice (some ⟨kb, 0, none⟩) 1 1] 88))) := ((Below.refl _ _).alloc (Nat.le_refl _) _).alloc (by simp) _
     have G6 := kide (G5.out.later BA.out)
     have B6 := kide (B5.out.later BA.out)
     have LB6 := kide (LB5.out.later BA.out)
     have LW6 := kide (LW5.out.later BA.out)
     have KN6 : Hid (Ni ((w5.alloc (Obj.cells #[.int .i64 top] 2)).alloc (Obj.cells #[.int .i64 (ox : Int), .int .i64 0, .int .i64 0, .int .i64 0, .int .i64 0, .slice none 0 0, .slice (some ⟨kb, 0, none⟩) 1 1] 88)) w.heap.size (some ⟨kb, 0, none⟩) [top]) := by
      rw [← hkb]
      exact (ni_new w5 w.heap.size [top] G5.out.size).later ((Below.refl _ _).alloc (Nat.le_refl _) _)
     have NB6 : Hid (Bz ((w5.alloc (Obj.cells #[.int .i64 top] 2)).alloc (Obj.cells #[.int .i64 (ox : Int), .int .i64 0, .int .i64 0, .int .i64 0, .int .i64 0, .slice none 0 0, .slice (some ⟨kb, 0, none⟩) 1 1] 88)) (kb + 1) #[.int .i64 (ox : Int), .int .i64 0, .int .i64 0, .int .i64 0, .int .i64 0, .slice none 0 0, .slice (some ⟨kb, 0, none⟩) 1 1] 88) := by
      have h := Bz.new (w5.alloc (Obj.cells #[.int .i64 top] 2)) #[.int .i64 (ox : Int), .int .i64 0, .int .i64 0, .int .i64 0, .int .i64 0, .slice none 0 0, .slice (some ⟨kb, 0, none⟩) 1 1] 88
      rw [World.size_alloc, hkb] at h
      exact h
     have hlk : lb < kb := by rw [← hkb]; exact LB5.out.lt
     have hkw : w.heap.size ≤ kb := by rw [← hkb]; exact G5.out.size
     have hnv : Hid ((Value.slice av l.length cv).ownBlock ≠ some (kb + 1)) := fun e => by have := (G5.out.tq.row.lt e).2; omega
     have n0 := NB6.out.cell 0
     simp at n0
     clear hr5 hd5 G5 B5 LB5 LW5 BA
     rcases (show ox = 3 ∨ ox = 4 ∨ ox = 5 ∨ ox = 6 ∨ ox = 7 ∨ ox = 8 ∨ ox = 9 by omega) with rfl | rfl | rfl | rfl | rfl | rfl | rfl
     ·have G6c : Hid (Gr w ((w5.alloc (Obj.cells #[.int .i64 top] 2)).alloc (Obj.cells #[.int .i64 3, .int .i64 0, .int .i64 0, .int .i64 0, .int .i64 0, .slice none 0 0, .slice (some ⟨kb, 0, none⟩) 1 1] 88)) β a c bs (some ⟨db, do', none⟩) ds (.slice av l.length cv) l) := G6.out
      have B6c : Hid (Bz ((w5.alloc (Obj.cells #[.int .i64 top] 2)).alloc (Obj.cells #[.int .i64 3, .int .i64 0, .int .i64 0, .int .i64 0, .int .i64 0, .slice none 0 0, .slice (some ⟨kb, 0, none⟩) 1 1] 88)) w.heap.size #[.slice none 0 0] 66) := B6.out
      have LB6c : Hid (Bz ((w5.alloc (Obj.cells #[.int .i64 top] 2)).alloc (Obj.cells #[.int .i64 3, .int .i64 0, .int .i64 0, .int .i64 0, .int .i64 0, .slice none 0 0, .slice (some ⟨kb, 0, none⟩) 1 1] 88)) lb #[.int .i64 op, .int .i64 vr, .int .i64 0, .int .i64 0, .int .i64 bw, .slice wa wn wc, .slice none 0 0] 88) := LB6.out
      have LW6c : Hid (Nw ((w5.alloc (Obj.cells #[.int .i64 top] 2)).alloc (Obj.cells #[.int .i64 3, .int .i64 0, .int .i64 0, .int .i64 0, .int .i64 0, .slice none 0 0, .slice (some ⟨kb, 0, none⟩) 1 1] 88)) w.heap.size wa ws) := LW6.out
      have NB6c : Hid (Bz ((w5.alloc (Obj.cells #[.int .i64 top] 2)).alloc (Obj.cells #[.int .i64 3, .int .i64 0, .int .i64 0, .int .i64 0, .int .i64 0, .slice none 0 0, .slice (some ⟨kb, 0, none⟩) 1 1] 88)) (kb + 1) #[.int .i64 3, .int .i64 0, .int .i64 0, .int .i64 0, .int .i64 0, .slice none 0 0, .slice (some ⟨kb, 0, none⟩) 1 1] 88) := NB6.out
      have hs6 : ((w5.alloc (Obj.cells #[.int .i64 top] 2)).alloc (Obj.cells #[.int .i64 3, .int .i64 0, .int .i64 0, .int .i64 0, .int .i64 0, .slice none 0 0, .slice (some ⟨kb, 0, none⟩) 1 1] 88)).heap.size = kb + 2 := by simp [hkb]
      have OKL : Hid (∀ x ∈ (l ++ [(⟨⟨op, vr, 0, 0, bw, ws, []⟩, wa, wc, none, 0⟩ : Tg)]), okQ x.ct) := fun x hx => by
       rcases List.mem_append.1 hx with hx | hx
       ·exact hpm.ok x hx
       ·simp only [List.mem_singleton] at hx
        subst hx
        exact HLo.out
      have AHL : Hid (Ahd ((l ++ [(⟨⟨op, vr, 0, 0, bw, ws, []⟩, wa, wc, none, 0⟩ : Tg)]).map Tg.ct)) := by
       show Ahd _
       rw [List.map_append]
       exact hpm.ah.snoc fun j hj => by simp at hj
      have BA : Hid (Below ((w5.alloc (Obj.cells #[.int .i64 top] 2)).alloc (Obj.cells #[.int .i64 3, .int .i64 0, .int .i64 0, .int .i64 0, .int .i64 0, .slice none 0 0, .slice (some ⟨kb, 0, none⟩) 1 1] 88)).heap.size ((w5.alloc (Obj.cells #[.int .i64 top] 2)).alloc (Obj.cells #[.int .i64 3, .int .i64 0, .int .i64 0, .int .i64 0, .int .i64 0, .slice none 0 0, .slice (some ⟨kb, 0, none⟩) 1 1] 88)) (((w5.alloc (Obj.cells #[.int .i64 top] 2)).alloc (Obj.cells #[.int .i64 3, .int .i64 0, .int .i64 0, .int .i64 0, .int .i64 0, .slice none 0 0, .slice (some ⟨kb, 0, none⟩) 1 1] 88)).alloc (Obj.cells #[.int .i64 op, .int .i64 vr, .int .i64 0, .int .i64 0, .int .i64 bw, .slice wa wn wc, .slice none 0 0] 88))) := (Below.refl _ _).alloc (Nat.le_refl _) _
      have GA := kide (G6c.out.later BA.out)
      have BBA := kide (B6c.out.later BA.out)
      have NBA := kide (NB6c.out.later BA.out)
      have LWA := kide (LW6c.out.later BA.out)
      have AZ : Hid (Bz (((w5.alloc (Obj.cells #[.int .i64 top] 2)).alloc (Obj.cells #[.int .i64 3, .int .i64 0, .int .i64 0, .int .i64 0, .int .i64 0, .slice none 0 0, .slice (some ⟨kb, 0, none⟩) 1 1] 88)).alloc (Obj.cells #[.int .i64 op, .int .i64 vr, .int .i64 0, .int .i64 0, .int .i64 bw, .slice wa wn wc, .slice none 0 0] 88)) (kb + 2) #[.int .i64 op, .int .i64 vr, .int .i64 0, .int .i64 0, .int .i64 bw, .slice wa wn wc, .slice none 0 0] 88) := by
       have h := Bz.new ((w5.alloc (Obj.cells #[.int .i64 top] 2)).alloc (Obj.cells #[.int .i64 3, .int .i64 0, .int .i64 0, .int .i64 0, .int .i64 0, .slice none 0 0, .slice (some ⟨kb, 0, none⟩) 1 1] 88)) #[.int .i64 op, .int .i64 vr, .int .i64 0, .int .i64 0, .int .i64 bw, .slice wa wn wc, .slice none 0 0] 88
       rw [hs6] at h
       exact h
      have hsA : (((w5.alloc (Obj.cells #[.int .i64 top] 2)).alloc (Obj.cells #[.int .i64 3, .int .i64 0, .int .i64 0, .int .i64 0, .int .i64 0, .slice none 0 0, .slice (some ⟨kb, 0, none⟩) 1 1] 88)).alloc (Obj.cells #[.int .i64 op, .int .i64 vr, .int .i64 0, .int .i64 0, .int .i64 bw, .slice wa wn wc, .slice none 0 0] 88)).heap.size = kb + 3 := by rw [World.size_alloc, hs6]
      have l0 := LB6c.out.cell 0
      have l1 := LB6c.out.cell 1
      have l2 := LB6c.out.cell 2
      have l3 := LB6c.out.cell 3
      have l4 := LB6c.out.cell 4
      have l5 := LB6c.out.cell 5
      have l6 := LB6c.out.cell 6
      simp only [List.getElem?_toArray, List.getElem?_cons_zero, List.getElem?_cons_succ] at l0 l1 l2 l3 l4 l5 l6
      clear G6 B6 LB6 LW6 KN6 NB6
      go_wp2_with (at_builtin; refine wpList_appT7 rfl _ _ rfl w.heap.size _ l (⟨⟨op, vr, 0, 0, bw, ws, []⟩, wa, wc, none, 0⟩ : Tg) rfl GA.out.tq.row _ _ rfl (by have h := AZ.out; have e := HWN.out; refine ⟨h.cell 0, h.cell 1, h.cell 2, h.cell 3, h.cell 4, ?_, h.cell 6⟩; show _ = some (Value.slice wa ws.length wc); rw [e]; exact h.cell 5) (by omega) (by simp; omega) ?_)
      intro g7 cap7 w7 ho7 hg7 hat7
      have G7 := kide (GA.out.push LWA.out (ni_none _ _) ⟨HLs.out, fun _ => rfl⟩ hg7 ho7)
      have B7 := kide (GA.out.bz BBA.out hg7)
      have NB7 := kide (NBA.out.growV hg7 hnv.out)
      have hnv7 : Hid ((Value.slice (some ⟨g7, 0, none⟩) (l.length + 1) cap7).ownBlock ≠ some (kb + 1)) := fun e => by
       have e9 : g7 = kb + 1 := by simpa [Value.ownBlock] using e
       rcases hat7 with h | h
       ·exact hnv.out (by rw [h, e9])
       ·first | (rw [hsA] at h; omega) | omega
      have KLT : Hid (∀ x ∈ (l ++ [(⟨⟨op, vr, 0, 0, bw, ws, []⟩, wa, wc, none, 0⟩ : Tg)]), ∀ p, x.ka = some p → p.block < w7.heap.size) := fun x hx p hp => (ni_lt (G7.out.tq.kn x hx) hp).2
      obtain ⟨k2, hk2⟩ : ∃ k2, w7.heap.size = k2 := ⟨_, rfl⟩
      have hk2b : kb + 1 < k2 := by rw [← hk2]; exact NB7.out.lt
      rw [hk2] at KLT
      have BA7 : Hid (Below w7.heap.size w7 (w7.alloc (Obj.cells #[.int .i64 top, .int .i64 (l.length : Int)] 2))) := (Below.refl _ _).alloc (Nat.le_refl _) _
      have G7a := kide (G7.out.later BA7.out)
      have B7a := kide (B7.out.later BA7.out)
      have NB7a := kide (NB7.out.later BA7.out)
      have KB7a : Hid (Bz (w7.alloc (Obj.cells #[.int .i64 top, .int .i64 (l.length : Int)] 2)) k2 #[.int .i64 top, .int .i64 (l.length : Int)] 2) := by rw [← hk2]; exact Bz.new _ _ _
      have y0 := NB7a.out.cell 6
      have y1 := NB7a.out.froz 6
      simp only [List.getElem?_toArray, List.getElem?_cons_zero, List.getElem?_cons_succ] at y0
      have BS7 : Hid (Below (w7.setCell ⟨kb + 1, 6, none⟩ (.slice (some ⟨k2, 0, none⟩) 2 2)).heap.size (w7.setCell ⟨kb + 1, 6, none⟩ (.slice (some ⟨k2, 0, none⟩) 2 2)) ((w7.setCell ⟨kb + 1, 6, none⟩ (.slice (some ⟨k2, 0, none⟩) 2 2)).alloc (Obj.cells #[.int .i64 top, .int .i64 (l.length : Int)] 2))) := (Below.refl _ _).alloc (Nat.le_refl _) _
      have G8 := kide ((G7.out.cell (o := 6) NB7.out (by omega) hnv7.out (.slice (some ⟨k2, 0, none⟩) 2 2)).later BS7.out)
      have B8 : Hid (Bz ((w7.setCell ⟨kb + 1, 6, none⟩ (.slice (some ⟨k2, 0, none⟩) 2 2)).alloc (Obj.cells #[.int .i64 top, .int .i64 (l.length : Int)] 2)) w.heap.size #[.slice none 0 0] 66) := (B7.out.other (show w.heap.size ≠ kb + 1 by omega) 6 _).later BS7.out
      have NB8 : Hid (Bz ((w7.setCell ⟨kb + 1, 6, none⟩ (.slice (some ⟨k2, 0, none⟩) 2 2)).alloc (Obj.cells #[.int .i64 top, .int .i64 (l.length : Int)] 2)) (kb + 1) #[.int .i64 3, .int .i64 0, .int .i64 0, .int .i64 0, .int .i64 0, .slice none 0 0, .slice (some ⟨k2, 0, none⟩) 2 2] 88) := (NB7.out.set 6 _).later BS7.out
      have KB8 : Hid (Bz ((w7.setCell ⟨kb + 1, 6, none⟩ (.slice (some ⟨k2, 0, none⟩) 2 2)).alloc (Obj.cells #[.int .i64 top, .int .i64 (l.length : Int)] 2)) k2 #[.int .i64 top, .int .i64 (l.length : Int)] 2) := by
       have h := Bz.new (w7.setCell ⟨kb + 1, 6, none⟩ (.slice (some ⟨k2, 0, none⟩) 2 2)) #[.int .i64 top, .int .i64 (l.length : Int)] 2
       have e : (w7.setCell ⟨kb + 1, 6, none⟩ (.slice (some ⟨k2, 0, none⟩) 2 2)).heap.size = k2 := by rw [← hk2]; simp
       rw [e] at h
       exact h
      clear ho7 hg7 hat7 l0 l1 l2 l3 l4 l5 l6 GA BBA NBA LWA AZ BA G6c B6c LB6c LW6c NB6c
      go_wp2_with fail
      refine Calls.mono (once_any 2 (by omega) (by omega) β a c bs _ G8.out.rr) ?_
      rintro e w9 ⟨b2, rfl, hr9, hd9⟩
      have G9 := kide (G8.out.draw hr9 hd9)
      have B9 : Hid (Bz w9 w.heap.size #[.slice none 0 0] 66) := B8.out.far hd9 (by omega)
      have NB9 : Hid (Bz w9 (kb + 1) #[.int .i64 3, .int .i64 0, .int .i64 0, .int .i64 0, .int .i64 0, .slice none 0 0, .slice (some ⟨k2, 0, none⟩) 2 2] 88) := NB8.out.far hd9 (by omega)
      have KB9 : Hid (Bz w9 k2 #[.int .i64 top, .int .i64 (l.length : Int)] 2) := KB8.out.far hd9 (by omega)
      clear hr9 hd9 y0 y1 G8 B8 NB8 KB8 G7a B7a NB7a KB7a G7 B7 NB7
      cases b2 with
      | false =>
       go_wp2_with fail
       refine Calls.mono (once_any 6 (by omega) (by omega) β a c bs _ G9.out.rr) ?_
       rintro e w11 ⟨b6, rfl, hr11, hd11⟩
       have G11 := kide (G9.out.draw hr11 hd11)
       have B11 : Hid (Bz w11 w.heap.size #[.slice none 0 0] 66) := B9.out.far hd11 (by omega)
       have NB11 : Hid (Bz w11 (kb + 1) #[.int .i64 3, .int .i64 0, .int .i64 0, .int .i64 0, .int .i64 0, .slice none 0 0, .slice (some ⟨k2, 0, none⟩) 2 2] 88) := NB9.out.far hd11 (by omega)
       have KB11 : Hid (Bz w11 k2 #[.int .i64 top, .int .i64 (l.length : Int)] 2) := KB9.out.far hd11 (by omega)
       have KN11 := kide (ni_two (B := w.heap.size) KB11.out (by omega))
       clear hr11 hd11
       cases b6 with
       | false =>
        have z0 := NB11.out.cell 0
        have z1 := NB11.out.cell 1
        have z2 := NB11.out.cell 2
        have z3 := NB11.out.cell 3
        have z4 := NB11.out.cell 4
        have z5 := NB11.out.cell 5
        have z6 := NB11.out.cell 6
        simp only [List.getElem?_toArray, List.getElem?_cons_zero, List.getElem?_cons_succ] at z0 z1 z2 z3 z4 z5 z6
        by_cases hbig : (wd : Int) + (wl : Int) > 200
        ·go_wp2_with fail
         refine ⟨trivial, _, (l ++ [(⟨⟨op, vr, 0, 0, bw, ws, []⟩, wa, wc, none, 0⟩ : Tg)]), top, ((wd : Int) + (wl : Int)), act_u (by kernel_rfl), G11.out, B11.out, ⟨by have := hpm.len; try simp; try omega, OKL.out, AHL.out, htop0, by first | exact htop1 | (simp; omega) | omega⟩⟩
        ·have BZa : Hid (Below w11.heap.size w11 (w11.alloc (Obj.cells #[.int .i64 3, .int .i64 0, .int .i64 0, .int .i64 0, .int .i64 0, .slice none 0 0, .slice (some ⟨k2, 0, none⟩) 2 2] 88))) := (Below.refl _ _).alloc (Nat.le_refl _) _
         have GZa := kide (G11.out.later BZa.out)
         have BBa := kide (B11.out.later BZa.out)
         have hzA : w.heap.size ≤ w11.heap.size := G11.out.size
         have AZ : Hid (Bz (w11.alloc (Obj.cells #[.int .i64 3, .int .i64 0, .int .i64 0, .int .i64 0, .int .i64 0, .slice none 0 0, .slice (some ⟨k2, 0, none⟩) 2 2] 88)) w11.heap.size #[.int .i64 3, .int .i64 0, .int .i64 0, .int .i64 0, .int .i64 0, .slice none 0 0, .slice (some ⟨k2, 0, none⟩) 2 2] 88) := by
          have h := Bz.new w11 #[.int .i64 3, .int .i64 0, .int .i64 0, .int .i64 0, .int .i64 0, .slice none 0 0, .slice (some ⟨k2, 0, none⟩) 2 2] 88
          have e : w11.heap.size = w11.heap.size := by simp
          rw [e] at h
          exact h
         go_wp2_with (at_builtin; refine wpList_appT7 rfl _ _ rfl w.heap.size _ (l ++ [(⟨⟨op, vr, 0, 0, bw, ws, []⟩, wa, wc, none, 0⟩ : Tg)]) (⟨⟨3, 0, 0, 0, 0, [], [top, (l.length : Int)]⟩, none, 0, (some ⟨k2, 0, none⟩), 2⟩ : Tg) rfl GZa.out.tq.row _ _ rfl (by have h := AZ.out; exact ⟨h.cell 0, h.cell 1, h.cell 2, h.cell 3, h.cell 4, h.cell 5, h.cell 6⟩) (by have := hpm.len; try simp; try omega) (by simp at hzA ⊢; omega) ?_)
         intro g9 cap9 w99 ho9 hg9 _
         have ho9' : OT w99 w.heap.size (Value.slice (some ⟨g9, 0, none⟩) (l.length + 1 + 1) cap9) ((l ++ [(⟨⟨op, vr, 0, 0, bw, ws, []⟩, wa, wc, none, 0⟩ : Tg)]) ++ [(⟨⟨3, 0, 0, 0, 0, [], [top, (l.length : Int)]⟩, none, 0, (some ⟨k2, 0, none⟩), 2⟩ : Tg)]) := by first | exact ho9 | (rw [List.append_assoc]; exact ho9)
         have G9 := kide (GZa.out.push (y := (⟨⟨3, 0, 0, 0, 0, [], [top, (l.length : Int)]⟩, none, 0, (some ⟨k2, 0, none⟩), 2⟩ : Tg)) (nw_none _ _) (KN11.out.later BZa.out) ⟨fun _ => rfl, fun e => by cases e⟩ hg9 ho9')
         have B9 := kide (GZa.out.bz BBa.out hg9)
         have P9 : Hid (PM m' ((l ++ [(⟨⟨op, vr, 0, 0, bw, ws, []⟩, wa, wc, none, 0⟩ : Tg)]) ++ [(⟨⟨3, 0, 0, 0, 0, [], [top, (l.length : Int)]⟩, none, 0, (some ⟨k2, 0, none⟩), 2⟩ : Tg)]) ((l.length + 1 : Nat) : Int) ((wd : Int) + (wl : Int))) := by
          have h1 := hpm.len
          refine ⟨by omega, by simp; omega, fun x hx => ?_, ?_, .inr ⟨by omega, by simp; try omega, by omega, by omega⟩⟩
          ·rcases List.mem_append.1 hx with hx | hx
           ·exact (OKL.out) x hx
           ·simp only [List.mem_singleton] at hx
            subst hx
            refine ⟨⟨?_, ?_, ?_, ?_, ?_, ?_, ?_, ?_, ?_⟩, ?_⟩ <;> simp [in64] <;> omega
          ·rw [List.map_append]
           refine (AHL.out).snoc fun j hj => ?_
           simp only [List.mem_cons, List.not_mem_nil, or_false] at hj
           simp only [List.length_map]
           try simp at hj
           try simp
           omega
         clear ho9 hg9 ho9'
         go_wp2_with fail
         refine ⟨?_, ?measure⟩
         iterate 80 (apply Exists.intro)
         (repeat apply Exists.intro)
         refine ⟨?rel, rfl⟩
         case rel => exact ⟨m', _, ((l.length + 1 : Nat) : Int), ((wd : Int) + (wl : Int)), by first | rfl | go_num, by first | rfl | go_num | (simp; done), by first | rfl | go_num, G9.out, B9.out, P9.out⟩
         case measure => first | (simp [intOf]; done) | (simp [intOf]; omega)

       | true =>
        have OI11 : Hid (OI w11 w.heap.size (.slice (some ⟨k2, 0, none⟩) 2 2) [top, (l.length : Int)]) := OI.of_bz (to := [top, (l.length : Int)]) KB11.out rfl (by omega) (by omega)
        have BAk : Hid (Below w11.heap.size w11 (w11.alloc (Obj.cells #[.int .i64 top] 2))) := (Below.refl _ _).alloc (Nat.le_refl _) _
        have G12a := kide (G11.out.later BAk.out)
        have B12a := kide (B11.out.later BAk.out)
        have NB12a := kide (NB11.out.later BAk.out)
        have KB12a := kide (KB11.out.later BAk.out)
        have OI12a := kide (OI11.out.later BAk.out)
        have z6 := NB11.out.cell 6
        simp only [List.getElem?_toArray, List.getElem?_cons_zero, List.getElem?_cons_succ] at z6
        have hz11 : w.heap.size ≤ w11.heap.size := G11.out.size
        go_wp2_with (at_builtin; refine wpList_appI rfl _ _ rfl w.heap.size _ [top, (l.length : Int)] top rfl OI12a.out _ _ rfl (by simp) (by simp) (by simp; omega) ?_)
        intro g12 cap12 w12 ho12 hg12 hat12
        have G12 := kide (G12a.out.ownK (k := k2) KB12a.out hg12 (by omega) (fun x hx p hp => by have := KLT.out x hx p hp; omega))
        have B12 := kide (B12a.out.grow (k := k2) hg12 (by omega))
        have NB12 := kide (NB12a.out.grow (k := k2) hg12 (by omega))
        obtain ⟨a12, c12, e12, hni⟩ := OI.ni ho12
        have hni' : Hid (Ni w12 w.heap.size (some ⟨g12, 0, none⟩) [top, (l.length : Int), top]) := by
         injection e12 with e1 e2 e3
         rw [e1]
         exact hni
        have y0 := NB12.out.cell 6
        have y1 := NB12.out.froz 6
        simp at y0
        have G13 := kide (G12.out.cell (o := 6) NB12.out (by omega) hnv7.out (.slice (some ⟨g12, 0, none⟩) 3 cap12))
        have B13 : Hid (Bz (w12.setCell ⟨kb + 1, 6, none⟩ (.slice (some ⟨g12, 0, none⟩) 3 cap12)) w.heap.size #[.slice none 0 0] 66) := B12.out.other (by omega) 6 _
        have NB13 : Hid (Bz (w12.setCell ⟨kb + 1, 6, none⟩ (.slice (some ⟨g12, 0, none⟩) 3 cap12)) (kb + 1) #[.int .i64 3, .int .i64 0, .int .i64 0, .int .i64 0, .int .i64 0, .slice none 0 0, .slice (some ⟨g12, 0, none⟩) 3 cap12] 88) := NB12.out.set 6 _
        have KN13 := kide (ni_setT (o := 6) hni'.out NB12.out (.slice (some ⟨g12, 0, none⟩) 3 cap12))
        clear ho12 hg12 hat12 e12 hni z6
        have z0 := NB13.out.cell 0
        have z1 := NB13.out.cell 1
        have z2 := NB13.out.cell 2
        have z3 := NB13.out.cell 3
        have z4 := NB13.out.cell 4
        have z5 := NB13.out.cell 5
        have z6 := NB13.out.cell 6
        simp only [List.getElem?_toArray, List.getElem?_cons_zero, List.getElem?_cons_succ] at z0 z1 z2 z3 z4 z5 z6
        by_cases hbig : (wd : Int) + ((wl : Int) + (wd : Int)) > 200
        ·go_wp2_with fail
         refine ⟨trivial, _, (l ++ [(⟨⟨op, vr, 0, 0, bw, ws, []⟩, wa, wc, none, 0⟩ : Tg)]), top, ((wd : Int) + ((wl : Int) + (wd : Int))), act_u (by kernel_rfl), G13.out, B13.out, ⟨by have := hpm.len; try simp; try omega, OKL.out, AHL.out, htop0, by first | exact htop1 | (simp; omega) | omega⟩⟩
        ·have BZa : Hid (Below (w12.setCell ⟨kb + 1, 6, none⟩ (.slice (some ⟨g12, 0, none⟩) 3 cap12)).heap.size (w12.setCell ⟨kb + 1, 6, none⟩ (.slice (some ⟨g12, 0, none⟩) 3 cap12)) ((w12.setCell ⟨kb + 1, 6, none⟩ (.slice (some ⟨g12, 0, none⟩) 3 cap12)).alloc (Obj.cells #[.int .i64 3, .int .i64 0, .int .i64 0, .int .i64 0, .int .i64 0, .slice none 0 0, .slice (some ⟨g12, 0, none⟩) 3 cap12] 88))) := (Below.refl _ _).alloc (Nat.le_refl _) _
         have GZa := kide (G13.out.later BZa.out)
         have BBa := kide (B13.out.later BZa.out)
         have hzA : w.heap.size ≤ (w12.setCell ⟨kb + 1, 6, none⟩ (.slice (some ⟨g12, 0, none⟩) 3 cap12)).heap.size := G13.out.size
         have AZ : Hid (Bz ((w12.setCell ⟨kb + 1, 6, none⟩ (.slice (some ⟨g12, 0, none⟩) 3 cap12)).alloc (Obj.cells #[.int .i64 3, .int .i64 0, .int .i64 0, .int .i64 0, .int .i64 0, .slice none 0 0, .slice (some ⟨g12, 0, none⟩) 3 cap12] 88)) w12.heap.size #[.int .i64 3, .int .i64 0, .int .i64 0, .int .i64 0, .int .i64 0, .slice none 0 0, .slice (some ⟨g12, 0, none⟩) 3 cap12] 88) := by
          have h := Bz.new (w12.setCell ⟨kb + 1, 6, none⟩ (.slice (some ⟨g12, 0, none⟩) 3 cap12)) #[.int .i64 3, .int .i64 0, .int .i64 0, .int .i64 0, .int .i64 0, .slice none 0 0, .slice (some ⟨g12, 0, none⟩) 3 cap12] 88
          have e : (w12.setCell ⟨kb + 1, 6, none⟩ (.slice (some ⟨g12, 0, none⟩) 3 cap12)).heap.size = w12.heap.size := by simp
          rw [e] at h
          exact h
         go_wp2_with (at_builtin; refine wpList_appT7 rfl _ _ rfl w.heap.size _ (l ++ [(⟨⟨op, vr, 0, 0, bw, ws, []⟩, wa, wc, none, 0⟩ : Tg)]) (⟨⟨3, 0, 0, 0, 0, [], [top, (l.length : Int), top]⟩, none, 0, (some ⟨g12, 0, none⟩), cap12⟩ : Tg) rfl GZa.out.tq.row _ _ rfl (by have h := AZ.out; exact ⟨h.cell 0, h.cell 1, h.cell 2, h.cell 3, h.cell 4, h.cell 5, h.cell 6⟩) (by have := hpm.len; try simp; try omega) (by simp at hzA ⊢; omega) ?_)
         intro g9 cap9 w99 ho9 hg9 _
         have ho9' : OT w99 w.heap.size (Value.slice (some ⟨g9, 0, none⟩) (l.length + 1 + 1) cap9) ((l ++ [(⟨⟨op, vr, 0, 0, bw, ws, []⟩, wa, wc, none, 0⟩ : Tg)]) ++ [(⟨⟨3, 0, 0, 0, 0, [], [top, (l.length : Int), top]⟩, none, 0, (some ⟨g12, 0, none⟩), cap12⟩ : Tg)]) := by first | exact ho9 | (rw [List.append_assoc]; exact ho9)
         have G9 := kide (GZa.out.push (y := (⟨⟨3, 0, 0, 0, 0, [], [top, (l.length : Int), top]⟩, none, 0, (some ⟨g12, 0, none⟩), cap12⟩ : Tg)) (nw_none _ _) (KN13.out.later BZa.out) ⟨fun _ => rfl, fun e => by cases e⟩ hg9 ho9')
         have B9 := kide (GZa.out.bz BBa.out hg9)
         have P9 : Hid (PM m' ((l ++ [(⟨⟨op, vr, 0, 0, bw, ws, []⟩, wa, wc, none, 0⟩ : Tg)]) ++ [(⟨⟨3, 0, 0, 0, 0, [], [top, (l.length : Int), top]⟩, none, 0, (some ⟨g12, 0, none⟩), cap12⟩ : Tg)]) ((l.length + 1 : Nat) : Int) ((wd : Int) + ((wl : Int) + (wd : Int)))) := by
          have h1 := hpm.len
          refine ⟨by omega, by simp; omega, fun x hx => ?_, ?_, .inr ⟨by omega, by simp; try omega, by omega, by omega⟩⟩
          ·rcases List.mem_append.1 hx with hx | hx
           ·exact (OKL.out) x hx
           ·simp only [List.mem_singleton] at hx
            subst hx
            refine ⟨⟨?_, ?_, ?_, ?_, ?_, ?_, ?_, ?_, ?_⟩, ?_⟩ <;> simp [in64] <;> omega
          ·rw [List.map_append]
           refine (AHL.out).snoc fun j hj => ?_
           simp only [List.mem_cons, List.not_mem_nil, or_false] at hj
           simp only [List.length_map]
           try simp at hj
           try simp
           omega
         clear ho9 hg9 ho9'
         go_wp2_with fail
         refine ⟨?_, ?measure⟩
         iterate 80 (apply Exists.intro)
         (repeat apply Exists.intro)
         refine ⟨?rel, rfl⟩
         case rel => exact ⟨m', _, ((l.length + 1 : Nat) : Int), ((wd : Int) + ((wl : Int) + (wd : Int))), by first | rfl | go_num, by first | rfl | go_num | (simp; done), by first | rfl | go_num, G9.out, B9.out, P9.out⟩
         case measure => first | (simp [intOf]; done) | (simp [intOf]; omega)

      | true =>
       obtain ⟨k3, hk3⟩ : ∃ k3, w9.heap.size = k3 := ⟨_, rfl⟩
       have hk3b : k2 < k3 := by rw [← hk3]; exact KB9.out.lt
       have hk3c : kb + 1 < k3 := by omega
       have BA9 : Hid (Below w9.heap.size w9 (w9.alloc (Obj.cells #[.int .i64 (l.length : Int), .int .i64 top] 2))) := (Below.refl _ _).alloc (Nat.le_refl _) _
       have G9a := kide (G9.out.later BA9.out)
       have B9a := kide (B9.out.later BA9.out)
       have NB9a := kide (NB9.out.later BA9.out)
       have KB9a : Hid (Bz (w9.alloc (Obj.cells #[.int .i64 (l.length : Int), .int .i64 top] 2)) k3 #[.int .i64 (l.length : Int), .int .i64 top] 2) := by rw [← hk3]; exact Bz.new _ _ _
       have y0 := NB9a.out.cell 6
       have y1 := NB9a.out.froz 6
       simp only [List.getElem?_toArray, List.getElem?_cons_zero, List.getElem?_cons_succ] at y0
       have BS9 : Hid (Below (w9.setCell ⟨kb + 1, 6, none⟩ (.slice (some ⟨k3, 0, none⟩) 2 2)).heap.size (w9.setCell ⟨kb + 1, 6, none⟩ (.slice (some ⟨k3, 0, none⟩) 2 2)) ((w9.setCell ⟨kb + 1, 6, none⟩ (.slice (some ⟨k3, 0, none⟩) 2 2)).alloc (Obj.cells #[.int .i64 (l.length : Int), .int .i64 top] 2))) := (Below.refl _ _).alloc (Nat.le_refl _) _
       have G10 := kide ((G9.out.cell (o := 6) NB9.out (by omega) hnv7.out (.slice (some ⟨k3, 0, none⟩) 2 2)).later BS9.out)
       have B10 : Hid (Bz ((w9.setCell ⟨kb + 1, 6, none⟩ (.slice (some ⟨k3, 0, none⟩) 2 2)).alloc (Obj.cells #[.int .i64 (l.length : Int), .int .i64 top] 2)) w.heap.size #[.slice none 0 0] 66) := (B9.out.other (show w.heap.size ≠ kb + 1 by omega) 6 _).later BS9.out
       have NB10 : Hid (Bz ((w9.setCell ⟨kb + 1, 6, none⟩ (.slice (some ⟨k3, 0, none⟩) 2 2)).alloc (Obj.cells #[.int .i64 (l.length : Int), .int .i64 top] 2)) (kb + 1) #[.int .i64 3, .int .i64 0, .int .i64 0, .int .i64 0, .int .i64 0, .slice none 0 0, .slice (some ⟨k3, 0, none⟩) 2 2] 88) := (NB9.out.set 6 _).later BS9.out
       have KB10 : Hid (Bz ((w9.setCell ⟨kb + 1, 6, none⟩ (.slice (some ⟨k3, 0, none⟩) 2 2)).alloc (Obj.cells #[.int .i64 (l.length : Int), .int .i64 top] 2)) k3 #[.int .i64 (l.length : Int), .int .i64 top] 2) := by
        have h := Bz.new (w9.setCell ⟨kb + 1, 6, none⟩ (.slice (some ⟨k3, 0, none⟩) 2 2)) #[.int .i64 (l.length : Int), .int .i64 top] 2
        have e : (w9.setCell ⟨kb + 1, 6, none⟩ (.slice (some ⟨k3, 0, none⟩) 2 2)).heap.size = k3 := by rw [← hk3]; simp
        rw [e] at h
        exact h
       clear G9 B9 NB9 KB9
       go_wp2_with fail
       refine Calls.mono (once_any 6 (by omega) (by omega) β a c bs _ G10.out.rr) ?_
       rintro e w11 ⟨b6, rfl, hr11, hd11⟩
       have G11 := kide (G10.out.draw hr11 hd11)
       have B11 : Hid (Bz w11 w.heap.size #[.slice none 0 0] 66) := B10.out.far hd11 (by omega)
       have NB11 : Hid (Bz w11 (kb + 1) #[.int .i64 3, .int .i64 0, .int .i64 0, .int .i64 0, .int .i64 0, .slice none 0 0, .slice (some ⟨k3, 0, none⟩) 2 2] 88) := NB10.out.far hd11 (by omega)
       have KB11 : Hid (Bz w11 k3 #[.int .i64 (l.length : Int), .int .i64 top] 2) := KB10.out.far hd11 (by omega)
       have KN11 := kide (ni_two (B := w.heap.size) KB11.out (by omega))
       clear hr11 hd11
       cases b6 with
       | false =>
        have z0 := NB11.out.cell 0
        have z1 := NB11.out.cell 1
        have z2 := NB11.out.cell 2
        have z3 := NB11.out.cell 3
        have z4 := NB11.out.cell 4
        have z5 := NB11.out.cell 5
        have z6 := NB11.out.cell 6
        simp only [List.getElem?_toArray, List.getElem?_cons_zero, List.getElem?_cons_succ] at z0 z1 z2 z3 z4 z5 z6
        by_cases hbig : (wd : Int) + (wl : Int) > 200
        ·go_wp2_with fail
         refine ⟨trivial, _, (l ++ [(⟨⟨op, vr, 0, 0, bw, ws, []⟩, wa, wc, none, 0⟩ : Tg)]), top, ((wd : Int) + (wl : Int)), act_u (by kernel_rfl), G11.out, B11.out, ⟨by have := hpm.len; try simp; try omega, OKL.out, AHL.out, htop0, by first | exact htop1 | (simp; omega) | omega⟩⟩
        ·have BZa : Hid (Below w11.heap.size w11 (w11.alloc (Obj.cells #[.int .i64 3, .int .i64 0, .int .i64 0, .int .i64 0, .int .i64 0, .slice none 0 0, .slice (some ⟨k3, 0, none⟩) 2 2] 88))) := (Below.refl _ _).alloc (Nat.le_refl _) _
         have GZa := kide (G11.out.later BZa.out)
         have BBa := kide (B11.out.later BZa.out)
         have hzA : w.heap.size ≤ w11.heap.size := G11.out.size
         have AZ : Hid (Bz (w11.alloc (Obj.cells #[.int .i64 3, .int .i64 0, .int .i64 0, .int .i64 0, .int .i64 0, .slice none 0 0, .slice (some ⟨k3, 0, none⟩) 2 2] 88)) w11.heap.size #[.int .i64 3, .int .i64 0, .int .i64 0, .int .i64 0, .int .i64 0, .slice none 0 0, .slice (some ⟨k3, 0, none⟩) 2 2] 88) := by
          have h := Bz.new w11 #[.int .i64 3, .int .i64 0, .int .i64 0, .int .i64 0, .int .i64 0, .slice none 0 0, .slice (some ⟨k3, 0, none⟩) 2 2] 88
          have e : w11.heap.size = w11.heap.size := by simp
          rw [e] at h
          exact h
         go_wp2_with (at_builtin; refine wpList_appT7 rfl _ _ rfl w.heap.size _ (l ++ [(⟨⟨op, vr, 0, 0, bw, ws, []⟩, wa, wc, none, 0⟩ : Tg)]) (⟨⟨3, 0, 0, 0, 0, [], [(l.length : Int), top]⟩, none, 0, (some ⟨k3, 0, none⟩), 2⟩ : Tg) rfl GZa.out.tq.row _ _ rfl (by have h := AZ.out; exact ⟨h.cell 0, h.cell 1, h.cell 2, h.cell 3, h.cell 4, h.cell 5, h.cell 6⟩) (by have := hpm.len; try simp; try omega) (by simp at hzA ⊢; omega) ?_)
         intro g9 cap9 w99 ho9 hg9 _
         have ho9' : OT w99 w.heap.size (Value.slice (some ⟨g9, 0, none⟩) (l.length + 1 + 1) cap9) ((l ++ [(⟨⟨op, vr, 0, 0, bw, ws, []⟩, wa, wc, none, 0⟩ : Tg)]) ++ [(⟨⟨3, 0, 0, 0, 0, [], [(l.length : Int), top]⟩, none, 0, (some ⟨k3, 0, none⟩), 2⟩ : Tg)]) := by first | exact ho9 | (rw [List.append_assoc]; exact ho9)
         have G9 := kide (GZa.out.push (y := (⟨⟨3, 0, 0, 0, 0, [], [(l.length : Int), top]⟩, none, 0, (some ⟨k3, 0, none⟩), 2⟩ : Tg)) (nw_none _ _) (KN11.out.later BZa.out) ⟨fun _ => rfl, fun e => by cases e⟩ hg9 ho9')
         have B9 := kide (GZa.out.bz BBa.out hg9)
         have P9 : Hid (PM m' ((l ++ [(⟨⟨op, vr, 0, 0, bw, ws, []⟩, wa, wc, none, 0⟩ : Tg)]) ++ [(⟨⟨3, 0, 0, 0, 0, [], [(l.length : Int), top]⟩, none, 0, (some ⟨k3, 0, none⟩), 2⟩ : Tg)]) ((l.length + 1 : Nat) : Int) ((wd : Int) + (wl : Int))) := by
          have h1 := hpm.len
          refine ⟨by omega, by simp; omega, fun x hx => ?_, ?_, .inr ⟨by omega, by simp; try omega, by omega, by omega⟩⟩
          ·rcases List.mem_append.1 hx with hx | hx
           ·exact (OKL.out) x hx
           ·simp only [List.mem_singleton] at hx
            subst hx
            refine ⟨⟨?_, ?_, ?_, ?_, ?_, ?_, ?_, ?_, ?_⟩, ?_⟩ <;> simp [in64] <;> omega
          ·rw [List.map_append]
           refine (AHL.out).snoc fun j hj => ?_
           simp only [List.mem_cons, List.not_mem_nil, or_false] at hj
           simp only [List.length_map]
           try simp at hj
           try simp
           omega
         clear ho9 hg9 ho9'
         go_wp2_with fail
         refine ⟨?_, ?measure⟩
         iterate 80 (apply Exists.intro)
         (repeat apply Exists.intro)
         refine ⟨?rel, rfl⟩
         case rel => exact ⟨m', _, ((l.length + 1 : Nat) : Int), ((wd : Int) + (wl : Int)), by first | rfl | go_num, by first | rfl | go_num | (simp; done), by first | rfl | go_num, G9.out, B9.out, P9.out⟩
         case measure => first | (simp [intOf]; done) | (simp [intOf]; omega)

       | true =>
        have OI11 : Hid (OI w11 w.heap.size (.slice (some ⟨k3, 0, none⟩) 2 2) [(l.length : Int), top]) := OI.of_bz (to := [(l.length : Int), top]) KB11.out rfl (by omega) (by omega)
        have BAk : Hid (Below w11.heap.size w11 (w11.alloc (Obj.cells #[.int .i64 top] 2))) := (Below.refl _ _).alloc (Nat.le_refl _) _
        have G12a := kide (G11.out.later BAk.out)
        have B12a := kide (B11.out.later BAk.out)
        have NB12a := kide (NB11.out.later BAk.out)
        have KB12a := kide (KB11.out.later BAk.out)
        have OI12a := kide (OI11.out.later BAk.out)
        have z6 := NB11.out.cell 6
        simp only [List.getElem?_toArray, List.getElem?_cons_zero, List.getElem?_cons_succ] at z6
        have hz11 : w.heap.size ≤ w11.heap.size := G11.out.size
        go_wp2_with (at_builtin; refine wpList_appI rfl _ _ rfl w.heap.size _ [(l.length : Int), top] top rfl OI12a.out _ _ rfl (by simp) (by simp) (by simp; omega) ?_)
        intro g12 cap12 w12 ho12 hg12 hat12
        have G12 := kide (G12a.out.ownK (k := k3) KB12a.out hg12 (by omega) (fun x hx p hp => by have := KLT.out x hx p hp; omega))
        have B12 := kide (B12a.out.grow (k := k3) hg12 (by omega))
        have NB12 := kide (NB12a.out.grow (k := k3) hg12 (by omega))
        obtain ⟨a12, c12, e12, hni⟩ := OI.ni ho12
        have hni' : Hid (Ni w12 w.heap.size (some ⟨g12, 0, none⟩) [(l.length : Int), top, top]) := by
         injection e12 with e1 e2 e3
         rw [e1]
         exact hni
        have y0 := NB12.out.cell 6
        have y1 := NB12.out.froz 6
        simp at y0
        have G13 := kide (G12.out.cell (o := 6) NB12.out (by omega) hnv7.out (.slice (some ⟨g12, 0, none⟩) 3 cap12))
        have B13 : Hid (Bz (w12.setCell ⟨kb + 1, 6, none⟩ (.slice (some ⟨g12, 0, none⟩) 3 cap12)) w.heap.size #[.slice none 0 0] 66) := B12.out.other (by omega) 6 _
        have NB13 : Hid (Bz (w12.setCell ⟨kb + 1, 6, none⟩ (.slice (some ⟨g12, 0, none⟩) 3 cap12)) (kb + 1) #[.int .i64 3, .int .i64 0, .int .i64 0, .int .i64 0, .int .i64 0, .slice none 0 0, .slice (some ⟨g12, 0, none⟩) 3 cap12] 88) := NB12.out.set 6 _
        have KN13 := kide (ni_setT (o := 6) hni'.out NB12.out (.slice (some ⟨g12, 0, none⟩) 3 cap12))
        clear ho12 hg12 hat12 e12 hni z6
        have z0 := NB13.out.cell 0
        have z1 := NB13.out.cell 1
        have z2 := NB13.out.cell 2
        have z3 := NB13.out.cell 3
        have z4 := NB13.out.cell 4
        have z5 := NB13.out.cell 5
        have z6 := NB13.out.cell 6
        simp only [List.getElem?_toArray, List.getElem?_cons_zero, List.getElem?_cons_succ] at z0 z1 z2 z3 z4 z5 z6
        by_cases hbig : (wd : Int) + ((wl : Int) + (wd : Int)) > 200
        ·go_wp2_with fail
         refine ⟨trivial, _, (l ++ [(⟨⟨op, vr, 0, 0, bw, ws, []⟩, wa, wc, none, 0⟩ : Tg)]), top, ((wd : Int) + ((wl : Int) + (wd : Int))), act_u (by kernel_rfl), G13.out, B13.out, ⟨by have := hpm.len; try simp; try omega, OKL.out, AHL.out, htop0, by first | exact htop1 | (simp; omega) | omega⟩⟩
        ·have BZa : Hid (Below (w12.setCell ⟨kb + 1, 6, none⟩ (.slice (some ⟨g12, 0, none⟩) 3 cap12)).heap.size (w12.setCell ⟨kb + 1, 6, none⟩ (.slice (some ⟨g12, 0, none⟩) 3 cap12)) ((w12.setCell ⟨kb + 1, 6, none⟩ (.slice (some ⟨g12, 0, none⟩) 3 cap12)).alloc (Obj.cells #[.int .i64 3, .int .i64 0, .int .i64 0, .int .i64 0, .int .i64 0, .slice none 0 0, .slice (some ⟨g12, 0, none⟩) 3 cap12] 88))) := (Below.refl _ _).alloc (Nat.le_refl _) _
         have GZa := kide (G13.out.later BZa.out)
         have BBa := kide (B13.out.later BZa.out)
         have hzA : w.heap.size ≤ (w12.setCell ⟨kb + 1, 6, none⟩ (.slice (some ⟨g12, 0, none⟩) 3 cap12)).heap.size := G13.out.size
         have AZ : Hid (Bz ((w12.setCell ⟨kb + 1, 6, none⟩ (.slice (some ⟨g12, 0, none⟩) 3 cap12)).alloc (Obj.cells #[.int .i64 3, .int .i64 0, .int .i64 0, .int .i64 0, .int .i64 0, .slice none 0 0, .slice (some ⟨g12, 0, none⟩) 3 cap12] 88)) w12.heap.size #[.int .i64 3, .int .i64 0, .int .i64 0, .int .i64 0, .int .i64 0, .slice none 0 0, .slice (some ⟨g12, 0, none⟩) 3 cap12] 88) := by
          have h := Bz.new (w12.setCell ⟨kb + 1, 6, none⟩ (.slice (some ⟨g12, 0, none⟩) 3 cap12)) #[.int .i64 3, .int .i64 0, .int .i64 0, .int .i64 0, .int .i64 0, .slice none 0 0, .slice (some ⟨g12, 0, none⟩) 3 cap12] 88
          have e : (w12.setCell ⟨kb + 1, 6, none⟩ (.slice (some ⟨g12, 0, none⟩) 3 cap12)).heap.size = w12.heap.size := by simp
          rw [e] at h
          exact h
         go_wp2_with (at_builtin; refine wpList_appT7 rfl _ _ rfl w.heap.size _ (l ++ [(⟨⟨op, vr, 0, 0, bw, ws, []⟩, wa, wc, none, 0⟩ : Tg)]) (⟨⟨3, 0, 0, 0, 0, [], [(l.length : Int), top, top]⟩, none, 0, (some ⟨g12, 0, none⟩), cap12⟩ : Tg) rfl GZa.out.tq.row _ _ rfl (by have h := AZ.out; exact ⟨h.cell 0, h.cell 1, h.cell 2, h.cell 3, h.cell 4, h.cell 5, h.cell 6⟩) (by have := hpm.len; try simp; try omega) (by simp at hzA ⊢; omega) ?_)
         intro g9 cap9 w99 ho9 hg9 _
         have ho9' : OT w99 w.heap.size (Value.slice (some ⟨g9, 0, none⟩) (l.length + 1 + 1) cap9) ((l ++ [(⟨⟨op, vr, 0, 0, bw, ws, []⟩, wa, wc, none, 0⟩ : Tg)]) ++ [(⟨⟨3, 0, 0, 0, 0, [], [(l.length : Int), top, top]⟩, none, 0, (some ⟨g12, 0, none⟩), cap12⟩ : Tg)]) := by first | exact ho9 | (rw [List.append_assoc]; exact ho9)
         have G9 := kide (GZa.out.push (y := (⟨⟨3, 0, 0, 0, 0, [], [(l.length : Int), top, top]⟩, none, 0, (some ⟨g12, 0, none⟩), cap12⟩ : Tg)) (nw_none _ _) (KN13.out.later BZa.out) ⟨fun _ => rfl, fun e => by cases e⟩ hg9 ho9')
         have B9 := kide (GZa.out.bz BBa.out hg9)
         have P9 : Hid (PM m' ((l ++ [(⟨⟨op, vr, 0, 0, bw, ws, []⟩, wa, wc, none, 0⟩ : Tg)]) ++ [(⟨⟨3, 0, 0, 0, 0, [], [(l.length : Int), top, top]⟩, none, 0, (some ⟨g12, 0, none⟩), cap12⟩ : Tg)]) ((l.length + 1 : Nat) : Int) ((wd : Int) + ((wl : Int) + (wd : Int)))) := by
          have h1 := hpm.len
          refine ⟨by omega, by simp; omega, fun x hx => ?_, ?_, .inr ⟨by omega, by simp; try omega, by omega, by omega⟩⟩
          ·rcases List.mem_append.1 hx with hx | hx
           ·exact (OKL.out) x hx
           ·simp only [List.mem_singleton] at hx
            subst hx
            refine ⟨⟨?_, ?_, ?_, ?_, ?_, ?_, ?_, ?_, ?_⟩, ?_⟩ <;> simp [in64] <;> omega
          ·rw [List.map_append]
           refine (AHL.out).snoc fun j hj => ?_
           simp only [List.mem_cons, List.not_mem_nil, or_false] at hj
           simp only [List.length_map]
           try simp at hj
           try simp
           omega
         clear ho9 hg9 ho9'
         go_wp2_with fail
         refine ⟨?_, ?measure⟩
         iterate 80 (apply Exists.intro)
         (repeat apply Exists.intro)
         refine ⟨?rel, rfl⟩
         case rel => exact ⟨m', _, ((l.length + 1 : Nat) : Int), ((wd : Int) + ((wl : Int) + (wd : Int))), by first | rfl | go_num, by first | rfl | go_num | (simp; done), by first | rfl | go_num, G9.out, B9.out, P9.out⟩
         case measure => first | (simp [intOf]; done) | (simp [intOf]; omega)

     ·go_wp2_with fail
      refine Calls.mono (nearI 0 ((wd : Int) - 1) (by omega) (by omega) (by omega) β a c bs _ G6.out.rr) ?_
      rintro e w7 ⟨ax, rfl, -, hax1, hr7, hd7⟩
      have G7 := kide (G6.out.draw hr7 hd7)
      have B7 : Hid (Bz w7 w.heap.size #[.slice none 0 0] 66) := B6.out.far hd7 (by omega)
      have NB7 : Hid (Bz w7 (kb + 1) #[.int .i64 4, .int .i64 0, .int .i64 0, .int .i64 0, .int .i64 0, .slice none 0 0, .slice (some ⟨kb, 0, none⟩) 1 1] 88) := NB6.out.far hd7 (by omega)
      have KN7 := kide (ni_far KN6.out hd7 hlt)
      clear hr7 hd7 G6 B6 LB6 LW6 KN6 NB6 n0
      have y0 := NB7.out.cell 2
      have y1 := NB7.out.froz 2
      simp at y0
      have G8 := kide (G7.out.cell (o := 2) NB7.out (by omega) hnv.out (.int .i64 (ax : Int)))
      have B8 : Hid (Bz (w7.setCell ⟨kb + 1, 2, none⟩ (.int .i64 (ax : Int))) w.heap.size #[.slice none 0 0] 66) := B7.out.other (by omega) 2 _
      have NB8 : Hid (Bz (w7.setCell ⟨kb + 1, 2, none⟩ (.int .i64 (ax : Int))) (kb + 1) #[.int .i64 4, .int .i64 0, .int .i64 (ax : Int), .int .i64 0, .int .i64 0, .slice none 0 0, .slice (some ⟨kb, 0, none⟩) 1 1] 88) := NB7.out.set 2 _
      have KN8 := kide (ni_setT (o := 2) KN7.out NB7.out (.int .i64 (ax : Int)))
      have y2 := NB8.out.cell 2
      simp only [List.getElem?_toArray, List.getElem?_cons_zero, List.getElem?_cons_succ] at y2
      go_wp2_with fail
      refine Calls.mono (nearI 0 (ax : Int) (by omega) (by omega) (by omega) β a c bs _ G8.out.rr) ?_
      rintro e w9 ⟨bx, rfl, -, hbx1, hr9, hd9⟩
      have G9 := kide (G8.out.draw hr9 hd9)
      have B9 : Hid (Bz w9 w.heap.size #[.slice none 0 0] 66) := B8.out.far hd9 (by omega)
      have NB9 : Hid (Bz w9 (kb + 1) #[.int .i64 4, .int .i64 0, .int .i64 (ax : Int), .int .i64 0, .int .i64 0, .slice none 0 0, .slice (some ⟨kb, 0, none⟩) 1 1] 88) := NB8.out.far hd9 (by omega)
      have KN9 := kide (ni_far KN8.out hd9 hlt)
      clear hr9 hd9 y0 y1 y2 G7 B7 NB7 KN7 G8 B8 NB8 KN8
      have y0 := NB9.out.cell 3
      have y1 := NB9.out.froz 3
      simp at y0
      have G10 := kide (G9.out.cell (o := 3) NB9.out (by omega) hnv.out (.int .i64 (bx : Int)))
      have B10 : Hid (Bz (w9.setCell ⟨kb + 1, 3, none⟩ (.int .i64 (bx : Int))) w.heap.size #[.slice none 0 0] 66) := B9.out.other (by omega) 3 _
      have NB10 : Hid (Bz (w9.setCell ⟨kb + 1, 3, none⟩ (.int .i64 (bx : Int))) (kb + 1) #[.int .i64 4, .int .i64 0, .int .i64 (ax : Int), .int .i64 (bx : Int), .int .i64 0, .slice none 0 0, .slice (some ⟨kb, 0, none⟩) 1 1] 88) := NB9.out.set 3 _
      have KN10 := kide (ni_setT (o := 3) KN9.out NB9.out (.int .i64 (bx : Int)))
      clear G9 B9 KN9
      have z0 := NB10.out.cell 0
      have z1 := NB10.out.cell 1
      have z2 := NB10.out.cell 2
      have z3 := NB10.out.cell 3
      have z4 := NB10.out.cell 4
      have z5 := NB10.out.cell 5
      have z6 := NB10.out.cell 6
      simp only [List.getElem?_toArray, List.getElem?_cons_zero, List.getElem?_cons_succ] at z0 z1 z2 z3 z4 z5 z6
      by_cases hbig : (ax : Int) - (bx : Int) + 1 > 200
      ·exact absurd hbig (by omega)
      ·have BZa : Hid (Below (w9.setCell ⟨kb + 1, 3, none⟩ (.int .i64 (bx : Int))).heap.size (w9.setCell ⟨kb + 1, 3, none⟩ (.int .i64 (bx : Int))) ((w9.setCell ⟨kb + 1, 3, none⟩ (.int .i64 (bx : Int))).alloc (Obj.cells #[.int .i64 4, .int .i64 0, .int .i64 (ax : Int), .int .i64 (bx : Int), .int .i64 0, .slice none 0 0, .slice (some ⟨kb, 0, none⟩) 1 1] 88))) := (Below.refl _ _).alloc (Nat.le_refl _) _
       have GZa := kide (G10.out.later BZa.out)
       have BBa := kide (B10.out.later BZa.out)
       have hzA : w.heap.size ≤ (w9.setCell ⟨kb + 1, 3, none⟩ (.int .i64 (bx : Int))).heap.size := G10.out.size
       have AZ : Hid (Bz ((w9.setCell ⟨kb + 1, 3, none⟩ (.int .i64 (bx : Int))).alloc (Obj.cells #[.int .i64 4, .int .i64 0, .int .i64 (ax : Int), .int .i64 (bx : Int), .int .i64 0, .slice none 0 0, .slice (some ⟨kb, 0, none⟩) 1 1] 88)) w9.heap.size #[.int .i64 4, .int .i64 0, .int .i64 (ax : Int), .int .i64 (bx : Int), .int .i64 0, .slice none 0 0, .slice (some ⟨kb, 0, none⟩) 1 1] 88) := by
        have h := Bz.new (w9.setCell ⟨kb + 1, 3, none⟩ (.int .i64 (bx : Int))) #[.int .i64 4, .int .i64 0, .int .i64 (ax : Int), .int .i64 (bx : Int), .int .i64 0, .slice none 0 0, .slice (some ⟨kb, 0, none⟩) 1 1] 88
        have e : (w9.setCell ⟨kb + 1, 3, none⟩ (.int .i64 (bx : Int))).heap.size = w9.heap.size := by simp
        rw [e] at h
        exact h
       go_wp2_with (at_builtin; refine wpList_appT7 rfl _ _ rfl w.heap.size _ l (⟨⟨4, 0, (ax : Int), (bx : Int), 0, [], [top]⟩, none, 0, (some ⟨kb, 0, none⟩), 1⟩ : Tg) rfl GZa.out.tq.row _ _ rfl (by have h := AZ.out; exact ⟨h.cell 0, h.cell 1, h.cell 2, h.cell 3, h.cell 4, h.cell 5, h.cell 6⟩) (by have := hpm.len; try simp; try omega) (by simp at hzA ⊢; omega) ?_)
       intro g9 cap9 w99 ho9 hg9 _
       have ho9' : OT w99 w.heap.size (Value.slice (some ⟨g9, 0, none⟩) (l.length + 1) cap9) (l ++ [(⟨⟨4, 0, (ax : Int), (bx : Int), 0, [], [top]⟩, none, 0, (some ⟨kb, 0, none⟩), 1⟩ : Tg)]) := by first | exact ho9 | (rw [List.append_assoc]; exact ho9)
       have G9 := kide (GZa.out.push (y := (⟨⟨4, 0, (ax : Int), (bx : Int), 0, [], [top]⟩, none, 0, (some ⟨kb, 0, none⟩), 1⟩ : Tg)) (nw_none _ _) (KN10.out.later BZa.out) ⟨fun _ => rfl, fun e => by cases e⟩ hg9 ho9')
       have B9 := kide (GZa.out.bz BBa.out hg9)
       have P9 : Hid (PM m' (l ++ [(⟨⟨4, 0, (ax : Int), (bx : Int), 0, [], [top]⟩, none, 0, (some ⟨kb, 0, none⟩), 1⟩ : Tg)]) (l.length : Int) ((ax : Int) - (bx : Int) + 1)) := by
        have h1 := hpm.len
        refine ⟨by omega, by simp; omega, fun x hx => ?_, ?_, .inr ⟨by omega, by simp; try omega, by omega, by omega⟩⟩
        ·rcases List.mem_append.1 hx with hx | hx
         ·exact (hpm.ok) x hx
         ·simp only [List.mem_singleton] at hx
          subst hx
          refine ⟨⟨?_, ?_, ?_, ?_, ?_, ?_, ?_, ?_, ?_⟩, ?_⟩ <;> simp [in64] <;> omega
        ·rw [List.map_append]
         refine (hpm.ah).snoc fun j hj => ?_
         simp only [List.mem_cons, List.not_mem_nil, or_false] at hj
         simp only [List.length_map]
         try simp at hj
         try simp
         omega
       clear ho9 hg9 ho9'
       go_wp2_with fail
       refine ⟨?_, ?measure⟩
       iterate 80 (apply Exists.intro)
       (repeat apply Exists.intro)
       refine ⟨?rel, rfl⟩
       case rel => exact ⟨m', _, (l.length : Int), ((ax : Int) - (bx : Int) + 1), by first | rfl | go_num, by first | rfl | go_num | (simp; done), by first | rfl | go_num, G9.out, B9.out, P9.out⟩
       case measure => first | (simp [intOf]; done) | (simp [intOf]; omega)
     ·go_wp2_with fail
      refine Calls.mono (below_any 5 (by omega) β a c bs _ G6.out.rr) ?_
      rintro e w7 ⟨ax, rfl, hax, hr7, hd7⟩
      have G7 := kide (G6.out.draw hr7 hd7)
      have B7 : Hid (Bz w7 w.heap.size #[.slice none 0 0] 66) := B6.out.far hd7 (by omega)
      have NB7 : Hid (Bz w7 (kb + 1) #[.int .i64 5, .int .i64 0, .int .i64 0, .int .i64 0, .int .i64 0, .slice none 0 0, .slice (some ⟨kb, 0, none⟩) 1 1] 88) := NB6.out.far hd7 (by omega)
      have KN7 := kide (ni_far KN6.out hd7 hlt)
      have hax' : ax ≤ 5 := by omega
      clear hr7 hd7 G6 B6 LB6 LW6 KN6 NB6 n0 hax
      have y0 := NB7.out.cell 2
      have y1 := NB7.out.froz 2
      simp at y0
      have G8 := kide (G7.out.cell (o := 2) NB7.out (by omega) hnv.out (.int .i64 (ax : Int)))
      have B8 : Hid (Bz (w7.setCell ⟨kb + 1, 2, none⟩ (.int .i64 (ax : Int))) w.heap.size #[.slice none 0 0] 66) := B7.out.other (by omega) 2 _
      have NB8 : Hid (Bz (w7.setCell ⟨kb + 1, 2, none⟩ (.int .i64 (ax : Int))) (kb + 1) #[.int .i64 5, .int .i64 0, .int .i64 (ax : Int), .int .i64 0, .int .i64 0, .slice none 0 0, .slice (some ⟨kb, 0, none⟩) 1 1] 88) := NB7.out.set 2 _
      have KN8 := kide (ni_setT (o := 2) KN7.out NB7.out (.int .i64 (ax : Int)))
      have z0 := NB8.out.cell 0
      have z1 := NB8.out.cell 1
      have z2 := NB8.out.cell 2
      have z3 := NB8.out.cell 3
      have z4 := NB8.out.cell 4
      have z5 := NB8.out.cell 5
      have z6 := NB8.out.cell 6
      simp only [List.getElem?_toArray, List.getElem?_cons_zero, List.getElem?_cons_succ] at z0 z1 z2 z3 z4 z5 z6
      by_cases hbig : (wd : Int) + (ax : Int) > 200
      ·go_wp2_with fail
       refine ⟨trivial, _, l, top, ((wd : Int) + (ax : Int)), act_u (by kernel_rfl), G8.out, B8.out, ⟨by have := hpm.len; try simp; try omega, hpm.ok, hpm.ah, htop0, by first | exact htop1 | (simp; omega) | omega⟩⟩
      ·have BZa : Hid (Below (w7.setCell ⟨kb + 1, 2, none⟩ (.int .i64 (ax : Int))).heap.size (w7.setCell ⟨kb + 1, 2, none⟩ (.int .i64 (ax : Int))) ((w7.setCell ⟨kb + 1, 2, none⟩ (.int .i64 (ax : Int))).alloc (Obj.cells #[.int .i64 5, .int .i64 0, .int .i64 (ax : Int), .int .i64 0, .int .i64 0, .slice none 0 0, .slice (some ⟨kb, 0, none⟩) 1 1] 88))) := (Below.refl _ _).alloc (Nat.le_refl _) _
       have GZa := kide (G8.out.later BZa.out)
       have BBa := kide (B8.out.later BZa.out)
       have hzA : w.heap.size ≤ (w7.setCell ⟨kb + 1, 2, none⟩ (.int .i64 (ax : Int))).heap.size := G8.out.size
       have AZ : Hid (Bz ((w7.setCell ⟨kb + 1, 2, none⟩ (.int .i64 (ax : Int))).alloc (Obj.cells #[.int .i64 5, .int .i64 0, .int .i64 (ax : Int), .int .i64 0, .int .i64 0, .slice none 0 0, .slice (some ⟨kb, 0, none⟩) 1 1] 88)) w7.heap.size #[.int .i64 5, .int .i64 0, .int .i64 (ax : Int), .int .i64 0, .int .i64 0, .slice none 0 0, .slice (some ⟨kb, 0, none⟩) 1 1] 88) := by
        have h := Bz.new (w7.setCell ⟨kb + 1, 2, none⟩ (.int .i64 (ax : Int))) #[.int .i64 5, .int .i64 0, .int .i64 (ax : Int), .int .i64 0, .int .i64 0, .slice none 0 0, .slice (some ⟨kb, 0, none⟩) 1 1] 88
        have e : (w7.setCell ⟨kb + 1, 2, none⟩ (.int .i64 (ax : Int))).heap.size = w7.heap.size := by simp
        rw [e] at h
        exact h
       go_wp2_with (at_builtin; refine wpList_appT7 rfl _ _ rfl w.heap.size _ l (⟨⟨5, 0, (ax : Int), 0, 0, [], [top]⟩, none, 0, (some ⟨kb, 0, none⟩), 1⟩ : Tg) rfl GZa.out.tq.row _ _ rfl (by have h := AZ.out; exact ⟨h.cell 0, h.cell 1, h.cell 2, h.cell 3, h.cell 4, h.cell 5, h.cell 6⟩) (by have := hpm.len; try simp; try omega) (by simp at hzA ⊢; omega) ?_)
       intro g9 cap9 w99 ho9 hg9 _
       have ho9' : OT w99 w.heap.size (Value.slice (some ⟨g9, 0, none⟩) (l.length + 1) cap9) (l ++ [(⟨⟨5, 0, (ax : Int), 0, 0, [], [top]⟩, none, 0, (some ⟨kb, 0, none⟩), 1⟩ : Tg)]) := by first | exact ho9 | (rw [List.append_assoc]; exact ho9)
       have G9 := kide (GZa.out.push (y := (⟨⟨5, 0, (ax : Int), 0, 0, [], [top]⟩, none, 0, (some ⟨kb, 0, none⟩), 1⟩ : Tg)) (nw_none _ _) (KN8.out.later BZa.out) ⟨fun _ => rfl, fun e => by cases e⟩ hg9 ho9')
       have B9 := kide (GZa.out.bz BBa.out hg9)
       have P9 : Hid (PM m' (l ++ [(⟨⟨5, 0, (ax : Int), 0, 0, [], [top]⟩, none, 0, (some ⟨kb, 0, none⟩), 1⟩ : Tg)]) (l.length : Int) ((wd : Int) + (ax : Int))) := by
        have h1 := hpm.len
        refine ⟨by omega, by simp; omega, fun x hx => ?_, ?_, .inr ⟨by omega, by simp; try omega, by omega, by omega⟩⟩
        ·rcases List.mem_append.1 hx with hx | hx
         ·exact (hpm.ok) x hx
         ·simp only [List.mem_singleton] at hx
          subst hx
          refine ⟨⟨?_, ?_, ?_, ?_, ?_, ?_, ?_, ?_, ?_⟩, ?_⟩ <;> simp [in64] <;> omega
        ·rw [List.map_append]
         refine (hpm.ah).snoc fun j hj => ?_
         simp only [List.mem_cons, List.not_mem_nil, or_false] at hj
         simp only [List.length_map]
         try simp at hj
         try simp
         omega
       clear ho9 hg9 ho9'
       go_wp2_with fail
       refine ⟨?_, ?measure⟩
       iterate 80 (apply Exists.intro)
       (repeat apply Exists.intro)
       refine ⟨?rel, rfl⟩
       case rel => exact ⟨m', _, (l.length : Int), ((wd : Int) + (ax : Int)), by first | rfl | go_num, by first | rfl | go_num | (simp; done), by first | rfl | go_num, G9.out, B9.out, P9.out⟩
       case measure => first | (simp [intOf]; done) | (simp [intOf]; omega)
     ·go_wp2_with fail
      refine Calls.mono (below_any 5 (by omega) β a c bs _ G6.out.rr) ?_
      rintro e w7 ⟨ax, rfl, hax, hr7, hd7⟩
      have G7 := kide (G6.out.draw hr7 hd7)
      have B7 : Hid (Bz w7 w.heap.size #[.slice none 0 0] 66) := B6.out.far hd7 (by omega)
      have NB7 : Hid (Bz w7 (kb + 1) #[.int .i64 6, .int .i64 0, .int .i64 0, .int .i64 0, .int .i64 0, .slice none 0 0, .slice (some ⟨kb, 0, none⟩) 1 1] 88) := NB6.out.far hd7 (by omega)
      have KN7 := kide (ni_far KN6.out hd7 hlt)
      have hax' : ax ≤ 5 := by omega
      clear hr7 hd7 G6 B6 LB6 LW6 KN6 NB6 n0 hax
      have y0 := NB7.out.cell 2
      have y1 := NB7.out.froz 2
      simp at y0
      have G8 := kide (G7.out.cell (o := 2) NB7.out (by omega) hnv.out (.int .i64 (ax : Int)))
      have B8 : Hid (Bz (w7.setCell ⟨kb + 1, 2, none⟩ (.int .i64 (ax : Int))) w.heap.size #[.slice none 0 0] 66) := B7.out.other (by omega) 2 _
      have NB8 : Hid (Bz (w7.setCell ⟨kb + 1, 2, none⟩ (.int .i64 (ax : Int))) (kb + 1) #[.int .i64 6, .int .i64 0, .int .i64 (ax : Int), .int .i64 0, .int .i64 0, .slice none 0 0, .slice (some ⟨kb, 0, none⟩) 1 1] 88) := NB7.out.set 2 _
      have KN8 := kide (ni_setT (o := 2) KN7.out NB7.out (.int .i64 (ax : Int)))
      have z0 := NB8.out.cell 0
      have z1 := NB8.out.cell 1
      have z2 := NB8.out.cell 2
      have z3 := NB8.out.cell 3
      have z4 := NB8.out.cell 4
      have z5 := NB8.out.cell 5
      have z6 := NB8.out.cell 6
      simp only [List.getElem?_toArray, List.getElem?_cons_zero, List.getElem?_cons_succ] at z0 z1 z2 z3 z4 z5 z6
      by_cases hbig : (wd : Int) + (ax : Int) > 200
      ·go_wp2_with fail
       refine ⟨trivial, _, l, top, ((wd : Int) + (ax : Int)), act_u (by kernel_rfl), G8.out, B8.out, ⟨by have := hpm.len; try simp; try omega, hpm.ok, hpm.ah, htop0, by first | exact htop1 | (simp; omega) | omega⟩⟩
      ·have BZa : Hid (Below (w7.setCell ⟨kb + 1, 2, none⟩ (.int .i64 (ax : Int))).heap.size (w7.setCell ⟨kb + 1, 2, none⟩ (.int .i64 (ax : Int))) ((w7.setCell ⟨kb + 1, 2, none⟩ (.int .i64 (ax : Int))).alloc (Obj.cells #[.int .i64 6, .int .i64 0, .int .i64 (ax : Int), .int .i64 0, .int .i64 0, .slice none 0 0, .slice (some ⟨kb, 0, none⟩) 1 1] 88))) := (Below.refl _ _).alloc (Nat.le_refl _) _
       have GZa := kide (G8.out.later BZa.out)
       have BBa := kide (B8.out.later BZa.out)
       have hzA : w.heap.size ≤ (w7.setCell ⟨kb + 1, 2, none⟩ (.int .i64 (ax : Int))).heap.size := G8.out.size
       have AZ : Hid (Bz ((w7.setCell ⟨kb + 1, 2, none⟩ (.int .i64 (ax : Int))).alloc (Obj.cells #[.int .i64 6, .int .i64 0, .int .i64 (ax : Int), .int .i64 0, .int .i64 0, .slice none 0 0, .slice (some ⟨kb, 0, none⟩) 1 1] 88)) w7.heap.size #[.int .i64 6, .int .i64 0, .int .i64 (ax : Int), .int .i64 0, .int .i64 0, .slice none 0 0, .slice (some ⟨kb, 0, none⟩) 1 1] 88) := by
        have h := Bz.new (w7.setCell ⟨kb + 1, 2, none⟩ (.int .i64 (ax : Int))) #[.int .i64 6, .int .i64 0, .int .i64 (ax : Int), .int .i64 0, .int .i64 0, .slice none 0 0, .slice (some ⟨kb, 0, none⟩) 1 1] 88
        have e : (w7.setCell ⟨kb + 1, 2, none⟩ (.int .i64 (ax : Int))).heap.size = w7.heap.size := by simp
        rw [e] at h
        exact h
       go_wp2_with (at_builtin; refine wpList_appT7 rfl _ _ rfl w.heap.size _ l (⟨⟨6, 0, (ax : Int), 0, 0, [], [top]⟩, none, 0, (some ⟨kb, 0, none⟩), 1⟩ : Tg) rfl GZa.out.tq.row _ _ rfl (by have h := AZ.out; exact ⟨h.cell 0, h.cell 1, h.cell 2, h.cell 3, h.cell 4, h.cell 5, h.cell 6⟩) (by have := hpm.len; try simp; try omega) (by simp at hzA ⊢; omega) ?_)
       intro g9 cap9 w99 ho9 hg9 _
       have ho9' : OT w99 w.heap.size (Value.slice (some ⟨g9, 0, none⟩) (l.length + 1) cap9) (l ++ [(⟨⟨6, 0, (ax : Int), 0, 0, [], [top]⟩, none, 0, (some ⟨kb, 0, none⟩), 1⟩ : Tg)]) := by first | exact ho9 | (rw [List.append_assoc]; exact ho9)
       have G9 := kide (GZa.out.push (y := (⟨⟨6, 0, (ax : Int), 0, 0, [], [top]⟩, none, 0, (some ⟨kb, 0, none⟩), 1⟩ : Tg)) (nw_none _ _) (KN8.out.later BZa.out) ⟨fun _ => rfl, fun e => by cases e⟩ hg9 ho9')
       have B9 := kide (GZa.out.bz BBa.out hg9)
       have P9 : Hid (PM m' (l ++ [(⟨⟨6, 0, (ax : Int), 0, 0, [], [top]⟩, none, 0, (some ⟨kb, 0, none⟩), 1⟩ : Tg)]) (l.length : Int) ((wd : Int) + (ax : Int))) := by
        have h1 := hpm.len
        refine ⟨by omega, by simp; omega, fun x hx => ?_, ?_, .inr ⟨by omega, by simp; try omega, by omega, by omega⟩⟩
        ·rcases List.mem_append.1 hx with hx | hx
         ·exact (hpm.ok) x hx
         ·simp only [List.mem_singleton] at hx
          subst hx
          refine ⟨⟨?_, ?_, ?_, ?_, ?_, ?_, ?_, ?_, ?_⟩, ?_⟩ <;> simp [in64] <;> omega
        ·rw [List.map_append]
         refine (hpm.ah).snoc fun j hj => ?_
         simp only [List.mem_cons, List.not_mem_nil, or_false] at hj
         simp only [List.length_map]
         try simp at hj
         try simp
         omega
       clear ho9 hg9 ho9'
       go_wp2_with fail
       refine ⟨?_, ?measure⟩
       iterate 80 (apply Exists.intro)
       (repeat apply Exists.intro)
       refine ⟨?rel, rfl⟩
       case rel => exact ⟨m', _, (l.length : Int), ((wd : Int) + (ax : Int)), by first | rfl | go_num, by first | rfl | go_num | (simp; done), by first | rfl | go_num, G9.out, B9.out, P9.out⟩
       case measure => first | (simp [intOf]; done) | (simp [intOf]; omega)
     ·go_wp2_with fail
      refine Calls.mono (below_any 9 (by omega) β a c bs _ G6.out.rr) ?_
      rintro e w7 ⟨ax, rfl, hax, hr7, hd7⟩
      have G7 := kide (G6.out.draw hr7 hd7)
      have B7 : Hid (Bz w7 w.heap.size #[.slice none 0 0] 66) := B6.out.far hd7 (by omega)
      have NB7 : Hid (Bz w7 (kb + 1) #[.int .i64 7, .int .i64 0, .int .i64 0, .int .i64 0, .int .i64 0, .slice none 0 0, .slice (some ⟨kb, 0, none⟩) 1 1] 88) := NB6.out.far hd7 (by omega)
      have KN7 := kide (ni_far KN6.out hd7 hlt)
      have hax' : ax ≤ 9 := by omega
      clear hr7 hd7 G6 B6 LB6 LW6 KN6 NB6 n0 hax
      have y0 := NB7.out.cell 2
      have y1 := NB7.out.froz 2
      simp at y0
      have G8 := kide (G7.out.cell (o := 2) NB7.out (by omega) hnv.out (.int .i64 (ax : Int)))
      have B8 : Hid (Bz (w7.setCell ⟨kb + 1, 2, none⟩ (.int .i64 (ax : Int))) w.heap.size #[.slice none 0 0] 66) := B7.out.other (by omega) 2 _
      have NB8 : Hid (Bz (w7.setCell ⟨kb + 1, 2, none⟩ (.int .i64 (ax : Int))) (kb + 1) #[.int .i64 7, .int .i64 0, .int .i64 (ax : Int), .int .i64 0, .int .i64 0, .slice none 0 0, .slice (some ⟨kb, 0, none⟩) 1 1] 88) := NB7.out.set 2 _
      have KN8 := kide (ni_setT (o := 2) KN7.out NB7.out (.int .i64 (ax : Int)))
      have z0 := NB8.out.cell 0
      have z1 := NB8.out.cell 1
      have z2 := NB8.out.cell 2
      have z3 := NB8.out.cell 3
      have z4 := NB8.out.cell 4
      have z5 := NB8.out.cell 5
      have z6 := NB8.out.cell 6
      simp only [List.getElem?_toArray, List.getElem?_cons_zero, List.getElem?_cons_succ] at z0 z1 z2 z3 z4 z5 z6
      by_cases hbig : (wd : Int) > 200
      ·exact absurd hbig (by omega)
      ·have BZa : Hid (Below (w7.setCell ⟨kb + 1, 2, none⟩ (.int .i64 (ax : Int))).heap.size (w7.setCell ⟨kb + 1, 2, none⟩ (.int .i64 (ax : Int))) ((w7.setCell ⟨kb + 1, 2, none⟩ (.int .i64 (ax : Int))).alloc (Obj.cells #[.int .i64 7, .int .i64 0, .int .i64 (ax : Int), .int .i64 0, .int .i64 0, .slice none 0 0, .slice (some ⟨kb, 0, none⟩) 1 1] 88))) := (Below.refl _ _).alloc (Nat.le_refl _) _
       have GZa := kide (G8.out.later BZa.out)
       have BBa := kide (B8.out.later BZa.out)
       have hzA : w.heap.size ≤ (w7.setCell ⟨kb + 1, 2, none⟩ (.int .i64 (ax : Int))).heap.size := G8.out.size
       have AZ : Hid (Bz ((w7.setCell ⟨kb + 1, 2, none⟩ (.int .i64 (ax : Int))).alloc (Obj.cells #[.int .i64 7, .int .i64 0, .int .i64 (ax : Int), .int .i64 0, .int .i64 0, .slice none 0 0, .slice (some ⟨kb, 0, none⟩) 1 1] 88)) w7.heap.size #[.int .i64 7, .int .i64 0, .int .i64 (ax : Int), .int .i64 0, .int .i64 0, .slice none 0 0, .slice (some ⟨kb, 0, none⟩) 1 1] 88) := by
        have h := Bz.new (w7.setCell ⟨kb + 1, 2, none⟩ (.int .i64 (ax : Int))) #[.int .i64 7, .int .i64 0, .int .i64 (ax : Int), .int .i64 0, .int .i64 0, .slice none 0 0, .slice (some ⟨kb, 0, none⟩) 1 1] 88
        have e : (w7.setCell ⟨kb + 1, 2, none⟩ (.int .i64 (ax : Int))).heap.size = w7.heap.size := by simp
        rw [e] at h
        exact h
       go_wp2_with (at_builtin; refine wpList_appT7 rfl _ _ rfl w.heap.size _ l (⟨⟨7, 0, (ax : Int), 0, 0, [], [top]⟩, none, 0, (some ⟨kb, 0, none⟩), 1⟩ : Tg) rfl GZa.out.tq.row _ _ rfl (by have h := AZ.out; exact ⟨h.cell 0, h.cell 1, h.cell 2, h.cell 3, h.cell 4, h.cell 5, h.cell 6⟩) (by have := hpm.len; try simp; try omega) (by simp at hzA ⊢; omega) ?_)
       intro g9 cap9 w99 ho9 hg9 _
       have ho9' : OT w99 w.heap.size (Value.slice (some ⟨g9, 0, none⟩) (l.length + 1) cap9) (l ++ [(⟨⟨7, 0, (ax : Int), 0, 0, [], [top]⟩, none, 0, (some ⟨kb, 0, none⟩), 1⟩ : Tg)]) := by first | exact ho9 | (rw [List.append_assoc]; exact ho9)
       have G9 := kide (GZa.out.push (y := (⟨⟨7, 0, (ax : Int), 0, 0, [], [top]⟩, none, 0, (some ⟨kb, 0, none⟩), 1⟩ : Tg)) (nw_none _ _) (KN8.out.later BZa.out) ⟨fun _ => rfl, fun e => by cases e⟩ hg9 ho9')
       have B9 := kide (GZa.out.bz BBa.out hg9)
       have P9 : Hid (PM m' (l ++ [(⟨⟨7, 0, (ax : Int), 0, 0, [], [top]⟩, none, 0, (some ⟨kb, 0, none⟩), 1⟩ : Tg)]) (l.length : Int) ((wd : Int))) := by
        have h1 := hpm.len
        refine ⟨by omega, by simp; omega, fun x hx => ?_, ?_, .inr ⟨by omega, by simp; try omega, by omega, by omega⟩⟩
        ·rcases List.mem_append.1 hx with hx | hx
         ·exact (hpm.ok) x hx
         ·simp only [List.mem_singleton] at hx
          subst hx
          refine ⟨⟨?_, ?_, ?_, ?_, ?_, ?_, ?_, ?_, ?_⟩, ?_⟩ <;> simp [in64] <;> omega
        ·rw [List.map_append]
         refine (hpm.ah).snoc fun j hj => ?_
         simp only [List.mem_cons, List.not_mem_nil, or_false] at hj
         simp only [List.length_map]
         try simp at hj
         try simp
         omega
       clear ho9 hg9 ho9'
       go_wp2_with fail
       refine ⟨?_, ?measure⟩
       iterate 80 (apply Exists.intro)
       (repeat apply Exists.intro)
       refine ⟨?rel, rfl⟩
       case rel => exact ⟨m', _, (l.length : Int), ((wd : Int)), by first | rfl | go_num, by first | rfl | go_num | (simp; done), by first | rfl | go_num, G9.out, B9.out, P9.out⟩
       case measure => first | (simp [intOf]; done) | (simp [intOf]; omega)
     ·go_wp2_with fail
      refine Calls.mono (below_any 9 (by omega) β a c bs _ G6.out.rr) ?_
      rintro e w7 ⟨ax, rfl, hax, hr7, hd7⟩
      have G7 := kide (G6.out.draw hr7 hd7)
      have B7 : Hid (Bz w7 w.heap.size #[.slice none 0 0] 66) := B6.out.far hd7 (by omega)
      have NB7 : Hid (Bz w7 (kb + 1) #[.int .i64 8, .int .i64 0, .int .i64 0, .int .i64 0, .int .i64 0, .slice none 0 0, .slice (some ⟨kb, 0, none⟩) 1 1] 88) := NB6.out.far hd7 (by omega)
      have KN7 := kide (ni_far KN6.out hd7 hlt)
      have hax' : ax ≤ 9 := by omega
      clear hr7 hd7 G6 B6 LB6 LW6 KN6 NB6 n0 hax
      have y0 := NB7.out.cell 2
      have y1 := NB7.out.froz 2
      simp at y0
      have G8 := kide (G7.out.cell (o := 2) NB7.out (by omega) hnv.out (.int .i64 (ax : Int)))
      have B8 : Hid (Bz (w7.setCell ⟨kb + 1, 2, none⟩ (.int .i64 (ax : Int))) w.heap.size #[.slice none 0 0] 66) := B7.out.other (by omega) 2 _
      have NB8 : Hid (Bz (w7.setCell ⟨kb + 1, 2, none⟩ (.int .i64 (ax : Int))) (kb + 1) #[.int .i64 8, .int .i64 0, .int .i64 (ax : Int), .int .i64 0, .int .i64 0, .slice none 0 0, .slice (some ⟨kb, 0, none⟩) 1 1] 88) := NB7.out.set 2 _
      have KN8 := kide (ni_setT (o := 2) KN7.out NB7.out (.int .i64 (ax : Int)))
      have z0 := NB8.out.cell 0
      have z1 := NB8.out.cell 1
      have z2 := NB8.out.cell 2
      have z3 := NB8.out.cell 3
      have z4 := NB8.out.cell 4
      have z5 := NB8.out.cell 5
      have z6 := NB8.out.cell 6
      simp only [List.getElem?_toArray, List.getElem?_cons_zero, List.getElem?_cons_succ] at z0 z1 z2 z3 z4 z5 z6
      by_cases hbig : (wd : Int) > 200
      ·exact absurd hbig (by omega)
      ·have BZa : Hid (Below (w7.setCell ⟨kb + 1, 2, none⟩ (.int .i64 (ax : Int))).heap.size (w7.setCell ⟨kb + 1, 2, none⟩ (.int .i64 (ax : Int))) ((w7.setCell ⟨kb + 1, 2, none⟩ (.int .i64 (ax : Int))).alloc (Obj.cells #[.int .i64 8, .int .i64 0, .int .i64 (ax : Int), .int .i64 0, .int .i64 0, .slice none 0 0, .slice (some ⟨kb, 0, none⟩) 1 1] 88))) := (Below.refl _ _).alloc (Nat.le_refl _) _
       have GZa := kide (G8.out.later BZa.out)
       have BBa := kide (B8.out.later BZa.out)
       have hzA : w.heap.size ≤ (w7.setCell ⟨kb + 1, 2, none⟩ (.int .i64 (ax : Int))).heap.size := G8.out.size
       have AZ : Hid (Bz ((w7.setCell ⟨kb + 1, 2, none⟩ (.int .i64 (ax : Int))).alloc (Obj.cells #[.int .i64 8, .int .i64 0, .int .i64 (ax : Int), .int .i64 0, .int .i64 0, .slice none 0 0, .slice (some ⟨kb, 0, none⟩) 1 1] 88)) w7.heap.size #[.int .i64 8, .int .i64 0, .int .i64 (ax : Int), .int .i64 0, .int .i64 0, .slice none 0 0, .slice (some ⟨kb, 0, none⟩) 1 1] 88) := by
        have h := Bz.new (w7.setCell ⟨kb + 1, 2, none⟩ (.int .i64 (ax : Int))) #[.int .i64 8, .int .i64 0, .int .i64 (ax : Int), .int .i64 0, .int .i64 0, .slice none 0 0, .slice (some ⟨kb, 0, none⟩) 1 1] 88
        have e : (w7.setCell ⟨kb + 1, 2, none⟩ (.int .i64 (ax : Int))).heap.size = w7.heap.size := by simp
        rw [e] at h
        exact h
       go_wp2_with (at_builtin; refine wpList_appT7 rfl _ _ rfl w.heap.size _ l (⟨⟨8, 0, (ax : Int), 0, 0, [], [top]⟩, none, 0, (some ⟨kb, 0, none⟩), 1⟩ : Tg) rfl GZa.out.tq.row _ _ rfl (by have h := AZ.out; exact ⟨h.cell 0, h.cell 1, h.cell 2, h.cell 3, h.cell 4, h.cell 5, h.cell 6⟩) (by have := hpm.len; try simp; try omega) (by simp at hzA ⊢; omega) ?_)
       intro g9 cap9 w99 ho9 hg9 _
       have ho9' : OT w99 w.heap.size (Value.slice (some ⟨g9, 0, none⟩) (l.length + 1) cap9) (l ++ [(⟨⟨8, 0, (ax : Int), 0, 0, [], [top]⟩, none, 0, (some ⟨kb, 0, none⟩), 1⟩ : Tg)]) := by first | exact ho9 | (rw [List.append_assoc]; exact ho9)
       have G9 := kide (GZa.out.push (y := (⟨⟨8, 0, (ax : Int), 0, 0, [], [top]⟩, none, 0, (some ⟨kb, 0, none⟩), 1⟩ : Tg)) (nw_none _ _) (KN8.out.later BZa.out) ⟨fun _ => rfl, fun e => by cases e⟩ hg9 ho9')
       have B9 := kide (GZa.out.bz BBa.out hg9)
       have P9 : Hid (PM m' (l ++ [(⟨⟨8, 0, (ax : Int), 0, 0, [], [top]⟩, none, 0, (some ⟨kb, 0, none⟩), 1⟩ : Tg)]) (l.length : Int) ((wd : Int))) := by
        have h1 := hpm.len
        refine ⟨by omega, by simp; omega, fun x hx => ?_, ?_, .inr ⟨by omega, by simp; try omega, by omega, by omega⟩⟩
        ·rcases List.mem_append.1 hx with hx | hx
         ·exact (hpm.ok) x hx
         ·simp only [List.mem_singleton] at hx
          subst hx
          refine ⟨⟨?_, ?_, ?_, ?_, ?_, ?_, ?_, ?_, ?_⟩, ?_⟩ <;> simp [in64] <;> omega
        ·rw [List.map_append]
         refine (hpm.ah).snoc fun j hj => ?_
         simp only [List.mem_cons, List.not_mem_nil, or_false] at hj
         simp only [List.length_map]
         try simp at hj
         try simp
         omega
       clear ho9 hg9 ho9'
       go_wp2_with fail
       refine ⟨?_, ?measure⟩
       iterate 80 (apply Exists.intro)
       (repeat apply Exists.intro)
       refine ⟨?rel, rfl⟩
       case rel => exact ⟨m', _, (l.length : Int), ((wd : Int)), by first | rfl | go_num, by first | rfl | go_num | (simp; done), by first | rfl | go_num, G9.out, B9.out, P9.out⟩
       case measure => first | (simp [intOf]; done) | (simp [intOf]; omega)
     ·go_wp2_with fail
      refine Calls.mono (below_any 3 (by omega) β a c bs _ G6.out.rr) ?_
      rintro e w7 ⟨ax, rfl, hax, hr7, hd7⟩
      have G7 := kide (G6.out.draw hr7 hd7)
      have B7 : Hid (Bz w7 w.heap.size #[.slice none 0 0] 66) := B6.out.far hd7 (by omega)
      have NB7 : Hid (Bz w7 (kb + 1) #[.int .i64 9, .int .i64 0, .int .i64 0, .int .i64 0, .int .i64 0, .slice none 0 0, .slice (some ⟨kb, 0, none⟩) 1 1] 88) := NB6.out.far hd7 (by omega)
      have KN7 := kide (ni_far KN6.out hd7 hlt)
      have hax' : ax ≤ 3 := by omega
      clear hr7 hd7 G6 B6 LB6 LW6 KN6 NB6 n0 hax
      have y0 := NB7.out.cell 2
      have y1 := NB7.out.froz 2
      simp at y0
      have G8 := kide (G7.out.cell (o := 2) NB7.out (by omega) hnv.out (.int .i64 (1 + (ax : Int))))
      have B8 : Hid (Bz (w7.setCell ⟨kb + 1, 2, none⟩ (.int .i64 (1 + (ax : Int)))) w.heap.size #[.slice none 0 0] 66) := B7.out.other (by omega) 2 _
      have NB8 : Hid (Bz (w7.setCell ⟨kb + 1, 2, none⟩ (.int .i64 (1 + (ax : Int)))) (kb + 1) #[.int .i64 9, .int .i64 0, .int .i64 (1 + (ax : Int)), .int .i64 0, .int .i64 0, .slice none 0 0, .slice (some ⟨kb, 0, none⟩) 1 1] 88) := NB7.out.set 2 _
      have KN8 := kide (ni_setT (o := 2) KN7.out NB7.out (.int .i64 (1 + (ax : Int))))
      have hq : 1 ≤ (wd : Int) * (1 + (ax : Int)) ∧ (wd : Int) * (1 + (ax : Int)) ≤ 800 := by
       rcases (show ax = 0 ∨ ax = 1 ∨ ax = 2 ∨ ax = 3 by omega) with rfl | rfl | rfl | rfl <;> constructor <;> omega
      obtain ⟨hq1, hq2⟩ := hq
      have z0 := NB8.out.cell 0
      have z1 := NB8.out.cell 1
      have z2 := NB8.out.cell 2
      have z3 := NB8.out.cell 3
      have z4 := NB8.out.cell 4
      have z5 := NB8.out.cell 5
      have z6 := NB8.out.cell 6
      simp only [List.getElem?_toArray, List.getElem?_cons_zero, List.getElem?_cons_succ] at z0 z1 z2 z3 z4 z5 z6
      by_cases hbig : (wd : Int) * (1 + (ax : Int)) > 200
      ·go_wp2_with fail
       refine ⟨trivial, _, l, top, ((wd : Int) * (1 + (ax : Int))), act_u (by kernel_rfl), G8.out, B8.out, ⟨by have := hpm.len; try simp; try omega, hpm.ok, hpm.ah, htop0, by first | exact htop1 | (simp; omega) | omega⟩⟩
      ·have BZa : Hid (Below (w7.setCell ⟨kb + 1, 2, none⟩ (.int .i64 (1 + (ax : Int)))).heap.size (w7.setCell ⟨kb + 1, 2, none⟩ (.int .i64 (1 + (ax : Int)))) ((w7.setCell ⟨kb + 1, 2, none⟩ (.int .i64 (1 + (ax : Int)))).alloc (Obj.cells #[.int .i64 9, .int .i64 0, .int .i64 (1 + (ax : Int)), .int .i64 0, .int .i64 0, .slice none 0 0, .slice (some ⟨kb, 0, none⟩) 1 1] 88))) := (Below.refl _ _).alloc (Nat.le_refl _) _
       have GZa := kide (G8.out.later BZa.out)
       have BBa := kide (B8.out.later BZa.out)
       have hzA : w.heap.size ≤ (w7.setCell ⟨kb + 1, 2, none⟩ (.int .i64 (1 + (ax : Int)))).heap.size := G8.out.size
       have AZ : Hid (Bz ((w7.setCell ⟨kb + 1, 2, none⟩ (.int .i64 (1 + (ax : Int)))).alloc (Obj.cells #[.int .i64 9, .int .i64 0, .int .i64 (1 + (ax : Int)), .int .i64 0, .int .i64 0, .slice none 0 0, .slice (some ⟨kb, 0, none⟩) 1 1] 88)) w7.heap.size #[.int .i64 9, .int .i64 0, .int .i64 (1 + (ax : Int)), .int .i64 0, .int .i64 0, .slice none 0 0, .slice (some ⟨kb, 0, none⟩) 1 1] 88) := by
        have h := Bz.new (w7.setCell ⟨kb + 1, 2, none⟩ (.int .i64 (1 + (ax : Int)))) #[.int .i64 9, .int .i64 0, .int .i64 (1 + (ax : Int)), .int .i64 0, .int .i64 0, .slice none 0 0, .slice (some ⟨kb, 0, none⟩) 1 1] 88
        have e : (w7.setCell ⟨kb + 1, 2, none⟩ (.int .i64 (1 + (ax : Int)))).heap.size = w7.heap.size := by simp
        rw [e] at h
        exact h
       go_wp2_with (at_builtin; refine wpList_appT7 rfl _ _ rfl w.heap.size _ l (⟨⟨9, 0, (1 + (ax : Int)), 0, 0, [], [top]⟩, none, 0, (some ⟨kb, 0, none⟩), 1⟩ : Tg) rfl GZa.out.tq.row _ _ rfl (by have h := AZ.out; exact ⟨h.cell 0, h.cell 1, h.cell 2, h.cell 3, h.cell 4, h.cell 5, h.cell 6⟩) (by have := hpm.len; try simp; try omega) (by simp at hzA ⊢; omega) ?_)
       intro g9 cap9 w99 ho9 hg9 _
       have ho9' : OT w99 w.heap.size (Value.slice (some ⟨g9, 0, none⟩) (l.length + 1) cap9) (l ++ [(⟨⟨9, 0, (1 + (ax : Int)), 0, 0, [], [top]⟩, none, 0, (some ⟨kb, 0, none⟩), 1⟩ : Tg)]) := by first | exact ho9 | (rw [List.append_assoc]; exact ho9)
       have G9 := kide (GZa.out.push (y := (⟨⟨9, 0, (1 + (ax : Int)), 0, 0, [], [top]⟩, none, 0, (some ⟨kb, 0, none⟩), 1⟩ : Tg)) (nw_none _ _) (KN8.out.later BZa.out) ⟨fun _ => rfl, fun e => by cases e⟩ hg9 ho9')
       have B9 := kide (GZa.out.bz BBa.out hg9)
       have P9 : Hid (PM m' (l ++ [(⟨⟨9, 0, (1 + (ax : Int)), 0, 0, [], [top]⟩, none, 0, (some ⟨kb, 0, none⟩), 1⟩ : Tg)]) (l.length : Int) ((wd : Int) * (1 + (ax : Int)))) := by
        have h1 := hpm.len
        refine ⟨by omega, by simp; omega, fun x hx => ?_, ?_, .inr ⟨by omega, by simp; try omega, by omega, by omega⟩⟩
        ·rcases List.mem_append.1 hx with hx | hx
         ·exact (hpm.ok) x hx
         ·simp only [List.mem_singleton] at hx
          subst hx
          refine ⟨⟨?_, ?_, ?_, ?_, ?_, ?_, ?_, ?_, ?_⟩, ?_⟩ <;> simp [in64] <;> omega
        ·rw [List.map_append]
         refine (hpm.ah).snoc fun j hj => ?_
         simp only [List.mem_cons, List.not_mem_nil, or_false] at hj
         simp only [List.length_map]
         try simp at hj
         try simp
         omega
       clear ho9 hg9 ho9'
       go_wp2_with fail
       refine ⟨?_, ?measure⟩
       iterate 80 (apply Exists.intro)
       (repeat apply Exists.intro)
       refine ⟨?rel, rfl⟩
       case rel => exact ⟨m', _, (l.length : Int), ((wd : Int) * (1 + (ax : Int))), by first | rfl | go_num, by first | rfl | go_num | (simp; done), by first | rfl | go_num, G9.out, B9.out, P9.out⟩
       case measure => first | (simp [intOf]; done) | (simp [intOf]; omega)

end Go.Proofs.Ytffcklobignlfaa
