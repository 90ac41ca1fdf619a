/- Several texts in one. -/
import Derived.Test.YthoiajpbpoglfaaBQ
import Derived.Test.YthoiajpbpoglfaaZGAF
import Derived.Test.YthoiajpbpoglfaaZGAH
import Derived.Test.YthoiajpbpoglfaaZGAK
import Derived.Test.YthoiajpbpoglfaaBS

/- Hedges of a graph without bars. -/
namespace Go.Proofs.Ythoiajpbpoglfaa
set_option linter.unusedVariables false
set_option linter.unusedSimpArgs false
open Go.RowKit Go.WideMaps Go.Maps Go.MapKept Go.ChangeMaps

set_option maxHeartbeats 1000000 in
set_option maxRecDepth 100000 in
theorem hedges0_any (a1 : Option Addr) (n c1 : Nat) (hn : n ≤ 1048576) (w : World) :
    Calls Try.prog 49 #[.agg #[.slice a1 n c1, .slice none 0 0]] w fun e w' => ∃ H, e = .returned (.slice (some ⟨H, 0, none⟩) n n) ∧ w.heap.size ≤ H ∧ Bz w' H (madeCells #[.slice none 0 0, .map none, .int .i64 0] (n * 3)) 83 ∧ Below w.heap.size w w' := by
  have hmk := fun kl kc u => make_hedges n hn kl kc u
  have hb0 : Below w.heap.size w (w.alloc (.cells #[.slice a1 n c1, .slice none 0 0] 32)) := (Below.refl _ _).alloc (Nat.le_refl _) _
  have B0 := kide hb0
  have X0 := kide (Bz.new w #[.slice a1 n c1, .slice none 0 0] 32)
  clear hb0
  go_enter Try.func49, Try.ntmps49
  go_wp2_with fail
  generalize w.alloc (.cells #[.slice a1 n c1, .slice none 0 0] 32) = w0 at *
  refine Calls.mono (newBarSet_any _) ?_
  rintro e w1 ⟨s, rfl, hs, hb1⟩
  have B1 := kide (B0.out.trans (hb1.mono B0.out.size))
  have X1 := kide (X0.out.later hb1)
  have S1 := kide hs
  have x1 := X1.out.cell 1
  have lx := X1.out.lt
  simp at x1
  clear hb1 X0 B0 hs
  go_wp2_with fail
  go_loopw [13] (fun i wr => i = .int .i64 0 ∧ wr = w1) (fun _ _ => 0)
  case atStart => exact ⟨rfl, rfl⟩
  case round =>
    obtain ⟨rfl, hwe⟩ := hrel
    obtain rfl := hwe.symm
    clear hwe
    have x0 := X1.out.cell 0
    simp at x0
    obtain ⟨g, v, D, o1, o2, -⟩ := S1.out
    obtain ⟨av, cv, rfl⟩ := o1.form
    have X2 : Hid (Bz w1 s #[.slice av ([] : List Yg).length cv, .map (some g)] 116) := o2
    have hb2 : Below w1.heap.size w1 (w1.alloc (.cells (madeCells #[.slice none 0 0, .map none, .int .i64 0] (n * 3)) 83)) := (Below.refl _ _).alloc (Nat.le_refl _) _
    have B2 := kide (B1.out.trans (hb2.mono B1.out.size))
    have H2 := kide (Bz.new w1 (madeCells #[.slice none 0 0, .map none, .int .i64 0] (n * 3)) 83)
    have X3 := kide (X2.out.later hb2)
    have s0 := X2.out.cell 0
    simp at s0
    have ls := X2.out.lt
    clear o1 o2 hb2
    go_wp2_with fail
    obtain ⟨H, hH⟩ : ∃ H, w1.heap.size = H := ⟨_, rfl⟩
    have hlow : w.heap.size ≤ H := by rw [← hH]; exact B1.out.size
    rw [hH] at H2
    try simp only [hH]
    generalize w1.alloc (.cells (madeCells #[.slice none 0 0, .map none, .int .i64 0] (n * 3)) 83) = w2 at *
    clear hH s0 ls x0 hmk
    go_loopw [45] (fun i wr => i = .int .i64 0 ∧ wr = w2) (fun _ _ => 0)
    case atStart => exact ⟨rfl, rfl⟩
    case round =>
      obtain ⟨rfl, hwe⟩ := hrel
      obtain rfl := hwe.symm
      clear hwe
      go_wp2_with fail
      go_ret
      exact ⟨H, rfl, hlow, H2.out, B2.out⟩

end Go.Proofs.Ythoiajpbpoglfaa

/- A painter of a graph without bars. -/
namespace Go.Proofs.Ythoiajpbpoglfaa
set_option linter.unusedVariables false
set_option linter.unusedSimpArgs false
open Go.RowKit

/-- A painter without bars, as it lies: k nodes have got no word yet. -/
structure Pn (w0 w : World) (P0 H : Nat) (va : Option Addr) (n vc : Nat) (wv : Value) (ls : List Int) : Prop where
  px : Bz w P0 #[.slice va n vc, .slice (some ⟨H, 0, none⟩) n n, .slice none 0 0, wv, .int .i64 0, .int .i64 0] 69
  hx : Bz w H (madeCells #[.slice none 0 0, .map none, .int .i64 0] (n * 3)) 83
  row : OI w w0.heap.size wv ls
  bel : Below w0.heap.size w0 w
  lo : w0.heap.size ≤ P0

theorem Pn.later {w0 u v : World} {P0 H n vc : Nat} {va : Option Addr} {wv : Value} {ls : List Int} (h : Pn w0 u P0 H va n vc wv ls) (hb : Below u.heap.size u v) : Pn w0 v P0 H va n vc wv ls :=
  ⟨h.px.later hb, h.hx.later hb, h.row.later hb, h.bel.trans (hb.mono h.bel.size), h.lo⟩
theorem Pn.push {w0 u v : World} {P0 H n vc : Nat} {va : Option Addr} {wv v' : Value} {ls : List Int} {y : Int} (h : Pn w0 u P0 H va n vc wv ls) (ho : OI v w0.heap.size v' (ls ++ [y])) (hg : u.grownBy v wv.ownBlock) :
    Pn w0 (v.setCell ⟨P0, 3, none⟩ v') P0 H va n vc v' (ls ++ [y]) ∧ Bz v P0 #[.slice va n vc, .slice (some ⟨H, 0, none⟩) n n, .slice none 0 0, wv, .int .i64 0, .int .i64 0] 69 := by
  have p1 := bz_grown h.px hg (bz_typed h.px (fun k e => h.row.typedG e) (by decide))
  have h1 := bz_grown h.hx hg (bz_typed h.hx (fun k e => h.row.typedG e) (by decide))
  have hne : P0 ≠ H := fun e => by
    have a := h.px
    have b := h.hx
    rw [e] at a
    have c : some _ = some _ := (show u.heap[H]? = _ from a).symm.trans b
    simp at c
  refine ⟨⟨p1.set 3 v', ?_, ?_, (h.bel.grown hg h.bel.size (fun b hb => (h.row.lt hb).1)).setCell h.lo _, h.lo⟩, p1⟩
  · exact bz_grown h1 (gsc v ⟨P0, 3, none⟩ v') (fun e => hne (by cases e; rfl))
  · exact ho.move fun b hb => by
      obtain ⟨cur, hh⟩ := ho.typedG hb
      exact (gsc v ⟨P0, 3, none⟩ v').block b (lt_of_block hh) (fun e => by
        cases e
        have c := (show v.heap[P0]? = _ from p1).symm.trans hh
        simp at c)

set_option maxHeartbeats 2000000 in
set_option maxRecDepth 100000 in
theorem newPainter0_any (va : Option Addr) (n vc : Nat) (ks : List Int) (hn : ks.length = n) (hn2 : n ≤ 200) (hk : ∀ x ∈ ks, 1 ≤ x ∧ x ≤ 4096) (w : World) (hr : RdI w va ks) :
    Calls Try.prog 34 #[.agg #[.slice va n vc, .slice none 0 0], .int .i64 0] w fun e w' => ∃ P0 H wv, e = .returned (.pointer (some ⟨P0, 0, none⟩)) ∧ Pn w w' P0 H va n vc wv (List.replicate n (-1)) := by
  have hb0 : Below w.heap.size w (w.alloc (.cells #[.slice va n vc, .slice none 0 0] 32)) := (Below.refl _ _).alloc (Nat.le_refl _) _
  have B0 := kide hb0
  have X0 := kide (Bz.new w #[.slice va n vc, .slice none 0 0] 32)
  have HR := kide hr
  have HKS := kide (And.intro hn hk)
  clear hb0 hk
  go_enter Try.func34, Try.ntmps34
  go_wp2_with fail
  generalize w.alloc (.cells #[.slice va n vc, .slice none 0 0] 32) = w0 at *
  have x0 := X0.out.cell 0
  have x1 := X0.out.cell 1
  have lx := X0.out.lt
  simp at x0 x1
  go_region_held3 (fun u => u.cell? ⟨w.heap.size, 0, none⟩ = some (Value.slice va n vc) ∧ u.cell? ⟨w.heap.size, 1, none⟩ = some (Value.slice none 0 0)) (first | (simp [*]; done) | exact ⟨(kcell ((Below.refl _ _).alloc (Nat.le_refl _) _) _ _ lx1).trans y0, (kcell ((Below.refl _ _).alloc (Nat.le_refl _) _) _ _ lx1).trans y1⟩)
    (first
      | (go_at_call 49; refine Calls.mono (hedges0_any va n vc (by omega) _) ?_; rintro e w1 ⟨H, rfl, hH, hbz, hb1⟩; replace hb1 := kundrew hb1; have y0 := (kcell hb1 _ _ lx).trans x0; have y1 := (kcell hb1 _ _ lx).trans x1; have lx1 := Nat.lt_of_lt_of_le lx hb1.size; have HZ := kide hbz; have HH := kide hH; have HB1 := kide hb1; clear hb1 hbz hH))
  have hba : Below w1.heap.size w1 (w1.alloc (.cells #[Value.slice va n vc, Value.slice (some ⟨H, 0, none⟩) n n, Value.slice none 0 0, Value.slice none 0 0, Value.int .i64 0, Value.int .i64 0] 69)) := (Below.refl _ _).alloc (Nat.le_refl _) _
  have hsz0 : w.heap.size ≤ w0.heap.size := B0.out.size
  have hsz1 : w0.heap.size ≤ w1.heap.size := HB1.out.size
  have BB : Below w.heap.size w w1 := B0.out.trans ((show Below w0.heap.size w0 w1 from HB1.out).mono hsz0)
  have P1 : Hid (Pn w (w1.alloc (.cells #[Value.slice va n vc, Value.slice (some ⟨H, 0, none⟩) n n, Value.slice none 0 0, Value.slice none 0 0, Value.int .i64 0, Value.int .i64 0] 69)) w1.heap.size H va n vc (.slice none 0 0) []) := ⟨Bz.new _ _ _, HZ.out.later hba, ⟨rfl, .inl ⟨rfl, rfl⟩⟩, BB.trans (hba.mono BB.size), BB.size⟩
  have R1 := kide (hr.later (BB.trans (hba.mono BB.size)))
  have XG : Hid (Bz (w1.alloc (.cells #[Value.slice va n vc, Value.slice (some ⟨H, 0, none⟩) n n, Value.slice none 0 0, Value.slice none 0 0, Value.int .i64 0, Value.int .i64 0] 69)) w.heap.size #[.slice va n vc, .slice none 0 0] 32) := (X0.out.later (show Below w0.heap.size w0 w1 from HB1.out)).later hba
  obtain ⟨P0, hP⟩ : ∃ P0, w1.heap.size = P0 := ⟨_, rfl⟩
  rw [hP] at P1
  try simp only [hP]
  generalize w1.alloc (.cells #[Value.slice va n vc, Value.slice (some ⟨H, 0, none⟩) n n, Value.slice none 0 0, Value.slice none 0 0, Value.int .i64 0, Value.int .i64 0] 69) = w2 at *
  clear hba hsz0 hsz1 BB hP x0 x1 y0 y1 lx lx1 HZ HH HB1 hr
  have g0 := XG.out.cell 0
  have g1 := XG.out.cell 1
  have lg := XG.out.lt
  simp at g0 g1
  go_wp2_with fail
  clear R1 XG g0 g1 lg X0 B0 hn
  go_loopw [18] (fun i wr => ∃ (k : Nat) (wv : Value), k ≤ n ∧ i = .int .i64 (k : Int) ∧ Pn w wr P0 H va n vc wv (List.replicate k (-1))) (fun i _ => n - (intOf i).toNat)
  case atStart => exact ⟨0, _, Nat.zero_le _, rfl, P1.out⟩
  case round =>
    obtain ⟨k, wv, hk, rfl, hpn⟩ := hrel
    have PK := kide hpn
    by_cases hlt : k < n
    · have i0 : (k : Int) < (n : Int) := by omega
      obtain ⟨-, -, h9 | ⟨kb, ko, rfl, hkc⟩⟩ := HR.out.later hpn.bel
      · have := HKS.out.1; rw [h9] at this; simp at this; omega
      have q0 := hkc k (by rw [HKS.out.1]; exact hlt)
      have hx1 := HKS.out.2 (ks.getD k 0) (by rw [List.getD, List.getElem?_eq_getElem (by rw [HKS.out.1]; exact hlt)]; exact List.getElem_mem _)
      generalize ks.getD k 0 = x at *
      have p1 := hpn.px.cell 1
      have p3 := hpn.px.cell 3
      simp at p1 p3
      have lp := hpn.px.lt
      have h2 : wr.cell? ⟨H, k * 3 + 2, none⟩ = some (.int .i64 0) := by
        have h9 := hpn.hx.cell (k * 3 + 2)
        rw [h9]
        have e2 : (k * 3 + 2) % 3 = 2 := by omega
        simp [madeCells, e2, show k * 3 + 2 < n * 3 by omega]
      have HLT : Hid (k < n) := hlt
      have HX1 := kide hx1
      clear hkc hpn hlt hk P1
      by_cases hx10 : x ≤ 10
      · rcases (show x = 1 ∨ x = 2 ∨ x = 3 ∨ x = 4 ∨ x = 5 ∨ x = 6 ∨ x = 7 ∨ x = 8 ∨ x = 9 ∨ x = 10 by omega) with rfl | rfl | rfl | rfl | rfl | rfl | rfl | rfl | rfl | rfl
        all_goals
          clear hx10 hx1
          go_wp2_with fail
          go_quiet (fail)
          have PQ := kide (PK.out.later (below_drewN (Below.refl _ _) nq))
          clear p1 p3 lp h2 q0
          generalize wr.drewN nq = wq at *
          have p3 := PQ.out.px.cell 3
          simp at p3
          have lp := PQ.out.px.lt
          have hul : (List.replicate k (-1 : Int)).length ≤ 1073741824 := by rw [List.length_replicate]; have := HLT.out; omega
          have hsz : w.heap.size ≤ (wq.alloc (Obj.cells #[Value.int .i64 (-1)] 2)).heap.size := by have := PQ.out.bel.size; simp; omega
          go_wp2_with (at_builtin; refine wpList_appI rfl _ _ rfl w.heap.size wv (List.replicate k (-1)) (-1) rfl (PQ.out.row.later ((Below.refl _ _).alloc (Nat.le_refl _) _)) _ 1 rfl (by simp) hul hsz ?_)
          intro g5 cap5 w5 hos hg5 _
          obtain ⟨pn, x6⟩ := (PQ.out.later ((Below.refl _ _).alloc (Nat.le_refl _) (Obj.cells #[Value.int .i64 (-1)] 2))).push hos hg5
          have e0 := x6.cell 3
          have f0 := x6.froz 3
          simp at e0
          try rw [List.length_replicate] at pn
          try rw [List.length_replicate]
          have PN := kide pn
          have hk2 : (k : Int) ≤ 200 := by have := HLT.out; omega
          clear hos hg5 pn x6 p3 lp hul hsz
          go_wp2_with fail
          go_roundw
          case rel => exact ⟨k + 1, _, HLT.out, by go_num, by rw [List.replicate_succ']; exact PN.out⟩
          case measure => have := HLT.out; simp only [intOf]; omega
      · have hd : decide (x ≤ 10) = false := by simpa using hx10
        clear hx10
        go_wp2_with fail
        go_quiet (fail)
        have PQ := kide (PK.out.later (below_drewN (Below.refl _ _) nq))
        clear p1 p3 lp h2 q0
        generalize wr.drewN nq = wq at *
        have p3 := PQ.out.px.cell 3
        simp at p3
        have lp := PQ.out.px.lt
        have hul : (List.replicate k (-1 : Int)).length ≤ 1073741824 := by rw [List.length_replicate]; have := HLT.out; omega
        have hsz : w.heap.size ≤ (wq.alloc (Obj.cells #[Value.int .i64 (-1)] 2)).heap.size := by have := PQ.out.bel.size; simp; omega
        go_wp2_with (at_builtin; refine wpList_appI rfl _ _ rfl w.heap.size wv (List.replicate k (-1)) (-1) rfl (PQ.out.row.later ((Below.refl _ _).alloc (Nat.le_refl _) _)) _ 1 rfl (by simp) hul hsz ?_)
        intro g5 cap5 w5 hos hg5 _
        obtain ⟨pn, x6⟩ := (PQ.out.later ((Below.refl _ _).alloc (Nat.le_refl _) (Obj.cells #[Value.int .i64 (-1)] 2))).push hos hg5
        have e0 := x6.cell 3
        have f0 := x6.froz 3
        simp at e0
        try rw [List.length_replicate] at pn
        try rw [List.length_replicate]
        have PN := kide pn
        have hk2 : (k : Int) ≤ 200 := by have := HLT.out; omega
        clear hos hg5 pn x6 p3 lp hul hsz
        go_wp2_with fail
        go_roundw
        case rel => exact ⟨k + 1, _, HLT.out, by go_num, by rw [List.replicate_succ']; exact PN.out⟩
        case measure => have := HLT.out; simp only [intOf]; omega
    · have e9 : k = n := by omega
      subst e9
      clear hpn hlt hk P1
      go_wp2_with fail
      go_ret
      exact ⟨P0, H, wv, rfl, PK.out⟩

end Go.Proofs.Ythoiajpbpoglfaa

/- The painter of a graph without bars: nothing is to be visited. -/
namespace Go.Proofs.Ythoiajpbpoglfaa
set_option linter.unusedVariables false
set_option linter.unusedSimpArgs false
open Go.RowKit

set_option maxHeartbeats 1000000 in
set_option maxRecDepth 100000 in
theorem visit0_any {w0 u : World} {P0 H n vc : Nat} {va : Option Addr} {wv : Value} {ls : List Int} (h : Pn w0 u P0 H va n vc wv ls) :
    Calls Try.prog 35 #[.pointer (some ⟨P0, 0, none⟩), .int .i64 0] u fun e w' => e = .returned (.int .i64 0) ∧ Below u.heap.size u w' := by
  have HP := kide h
  have p2 := h.px.cell 2
  simp at p2
  have lp := h.px.lt
  have lp1 : P0 < u.heap.size + 1 := by omega
  have lp2 : P0 < u.heap.size + 1 + 1 := by omega
  have lp3 : P0 < u.heap.size + 1 + 1 + 1 := by omega
  clear h
  go_enter Try.func35, Try.ntmps35
  go_wp2_with fail
  go_quiet (fail)
  go_wp2_with fail
  refine bodyPost_ret (v := .int .i64 0) (by simp [results, Try.results35, go_sem]) rfl ⟨rfl, ?_⟩
  have hb : Below u.heap.size u (((u.alloc (.cells #[.pointer (some ⟨P0, 0, none⟩)] 64)).alloc (.cells #[.int .i64 0] 3)).alloc (.cells #[.int .i64 0] 2)) := ((((Below.refl _ _).alloc (Nat.le_refl _) _).alloc (by simp) _).alloc (by simp; omega) _)
  first | exact below_drewN hb _ | exact (below_drewN hb _).setCell (by simp; try omega) _

end Go.Proofs.Ythoiajpbpoglfaa

/- The words of a painter whose nodes all have the word 0. -/
namespace Go.Proofs.Ythoiajpbpoglfaa
set_option linter.unusedVariables false
set_option linter.unusedSimpArgs false
open Go.RowKit

def zct (ks : List Int) : List (Int × List Nat) := ks.map fun V => (V, zeros V.toNat)
theorem zct_snoc {ks : List Int} {k : Nat} (h : k < ks.length) : zct (ks.take (k + 1)) = zct (ks.take k) ++ [(ks.getD k 0, zeros (ks.getD k 0).toNat)] := by
  unfold zct
  rw [List.take_add_one, List.getElem?_eq_getElem h, Option.toList_some, List.map_append, List.getD, List.getElem?_eq_getElem h]
  rfl

/-- Some words have been told. -/
structure Tl (u : World) (B : Nat) (v : Value) (l : List Bw) (ks : List Int) (k : Nat) : Prop where
  own : OB2 u B v l
  ct : l.map Bw.ct = zct (ks.take k)
  nw : ∀ x ∈ l, Nw u B x.a x.ws

theorem Tl.later {u u' : World} {B : Nat} {v : Value} {l : List Bw} {ks : List Int} {k : Nat} (h : Tl u B v l ks k) (hb : Below u.heap.size u u') : Tl u' B v l ks k :=
  ⟨h.own.later hb, h.ct, fun x hx => (h.nw x hx).later hb⟩
theorem Tl.push {u u' : World} {B : Nat} {v v' : Value} {l : List Bw} {x : Bw} {ks : List Int} {k : Nat} (h : Tl u B v l ks k) (ho : OB2 u' B v' (l ++ [x])) (hg : u.grownBy u' v.ownBlock) (hx : Nw u B x.a x.ws) (e : zct (ks.take (k + 1)) = zct (ks.take k) ++ [x.ct]) : Tl u' B v' (l ++ [x]) ks (k + 1) := by
  have hk : ∀ {a : Option Addr} {xs : List Nat}, Nw u B a xs → Nw u' B a xs := fun hn => hn.kept fun b cur hc => hg.block b (lt_of_block hc) (fun e9 => by
    obtain ⟨cur', h9⟩ := h.own.typed e9.symm
    rw [hc] at h9
    simp at h9)
  refine ⟨ho, by rw [e, List.map_append, h.ct]; rfl, fun y hy => ?_⟩
  rcases List.mem_append.1 hy with hy | hy
  · exact hk (h.nw y hy)
  · rw [List.mem_singleton.1 hy]; exact hk hx
theorem Tl.len {u : World} {B : Nat} {v : Value} {l : List Bw} {ks : List Int} {k : Nat} (h : Tl u B v l ks k) (hk : k ≤ ks.length) : l.length = k := by
  have h9 := congrArg List.length h.ct
  unfold zct at h9
  rw [List.length_map, List.length_map, List.length_take] at h9
  omega

set_option maxHeartbeats 1000000 in
set_option maxRecDepth 100000 in
theorem told_any {w0 w : World} {P0 H n vc : Nat} {va : Option Addr} {wv : Value} (ks : List Int) (hn : ks.length = n) (hn1 : 1 ≤ n) (hn2 : n ≤ 200) (hk : ∀ x ∈ ks, 1 ≤ x ∧ x ≤ 4096) (hr : RdI w0 va ks) (h : Pn w0 w P0 H va n vc wv (List.replicate n 0)) :
    Calls Try.prog 37 #[.pointer (some ⟨P0, 0, none⟩)] w fun e w' => ∃ a c l, e = .returned (.slice a n c) ∧ RdW w' a l ∧ l.map Bw.ct = zct ks ∧ Below w.heap.size w w' := by
  obtain ⟨g, cp, rfl⟩ : ∃ g cp, wv = .slice (some ⟨g, 0, none⟩) n cp := by
    have h9 := h.row.formP (by rw [List.length_replicate]; exact hn1)
    rw [List.length_replicate] at h9
    exact h9
  have HR := kide hr
  have HKS := kide (And.intro hn hk)
  have HP := kide h
  have p3 := h.px.cell 3
  have p0 := h.px.cell 0
  simp at p3 p0
  have lp := h.px.lt
  clear h hk
  go_enter Try.func37, Try.ntmps37
  go_wp2_with fail
  clear p3 p0 lp hn
  go_loopw [3, 13] (fun v i wr => ∃ (k : Nat) (l : List Bw), k ≤ n ∧ i = .int .i64 (k : Int) ∧ Tl wr w.heap.size v l ks k ∧ Below w.heap.size w wr) (fun _ i _ => n - (intOf i).toNat)
  case atStart => exact ⟨0, [], Nat.zero_le _, rfl, ⟨OB2.nil _ _, rfl, fun x hx => by cases hx⟩, Below.refl _ _⟩
  case round =>
    obtain ⟨k, l, hk, rfl, ht, hb⟩ := hrel
    have HT := kide ht
    have HBK := kide hb
    by_cases hlt : k < n
    · have i0 : (k : Int) < (n : Int) := by omega
      have i1 : (k : Int) ≥ 0 := by omega
      have hp := HP.out.later hb
      obtain ⟨-, -, h9 | ⟨kb, ko, rfl, hkc⟩⟩ := HR.out.later hp.bel
      · have := HKS.out.1; rw [h9] at this; simp at this; omega
      have q0 := hkc k (by rw [HKS.out.1]; exact hlt)
      have hx1 := HKS.out.2 (ks.getD k 0) (by rw [List.getD, List.getElem?_eq_getElem (by rw [HKS.out.1]; exact hlt)]; exact List.getElem_mem _)
      have HSN := kide (zct_snoc (ks := ks) (k := k) (by rw [HKS.out.1]; exact hlt))
      generalize ks.getD k 0 = x at *
      have p3 := hp.px.cell 3
      have p0 := hp.px.cell 0
      have c4 := hp.row.cellO (i := k) (by rw [List.length_replicate]; exact hlt)
      rw [List.getD, List.getElem?_replicate, if_pos hlt] at c4
      simp at p3 p0 c4
      have lp := hp.px.lt
      have HLT : Hid (k < n) := hlt
      have HX1 := kide hx1
      have HL : Hid (l.length = k) := ht.len (by rw [HKS.out.1]; exact hk)
      obtain ⟨V, hV⟩ : ∃ V : Nat, x = (V : Int) := ⟨x.toNat, by omega⟩
      subst hV
      have hof := of_zero V (by omega) (by omega)
      clear ht hb hp hkc hlt hk hx1
      go_wp2_with fail
      refine Calls.mono (implOf_any _ _ _ (by omega)) ?_
      rw [hof]
      rintro e w2 ⟨aw, cw, rfl, hfr, hb2⟩
      simp only [] at hfr ⊢
      have hbe : Below w2.heap.size w2 (w2.alloc (Obj.cells #[Value.int .i64 (V : Int), Value.slice aw (zeros V).length cw] 48)) := (Below.refl _ _).alloc (Nat.le_refl _) _
      have T2 := HT.out.later (hb2.trans (hbe.mono hb2.size))
      have B2 := HBK.out.trans ((hb2.trans (hbe.mono hb2.size)).mono HBK.out.size)
      have N2 : Nw w2 w.heap.size aw (zeros V) := by
        rcases hfr with ⟨h1, h2⟩ | ⟨gg, h1, h2, h3⟩
        · rw [h1, h2]; exact .inl ⟨rfl, fun x h => by cases h⟩
        · rw [h1]; exact h3.nw (Nat.le_trans HBK.out.size h2)
      have N3 := N2.later hbe
      have X2 := Bz.new w2 #[Value.int .i64 (V : Int), Value.slice aw (zeros V).length cw] 48
      clear hfr N2 p3 p0 c4 q0 lp HT HBK hbe hof
      have l2 := X2.lt
      have hul : l.length ≤ 1073741824 := by rw [HL.out]; have := HLT.out; omega
      have hba : Below (w2.alloc (Obj.cells #[Value.int .i64 (V : Int), Value.slice aw (zeros V).length cw] 48)).heap.size (w2.alloc (Obj.cells #[Value.int .i64 (V : Int), Value.slice aw (zeros V).length cw] 48)) ((w2.alloc (Obj.cells #[Value.int .i64 (V : Int), Value.slice aw (zeros V).length cw] 48)).alloc (Obj.cells #[Value.int .i64 (V : Int), Value.slice aw (zeros V).length cw] 48)) := (Below.refl _ _).alloc (Nat.le_refl _) _
      have T3 := T2.later hba
      have N4 := N3.later hba
      have B3 := B2.trans (hba.mono B2.size)
      clear T2 N3 B2
      go_wp2_with (at_builtin; refine wpList_appB2 (y := ⟨(V : Int), aw, cw, zeros V⟩) rfl _ _ rfl w.heap.size u3 l rfl T3.own _ 1 rfl (by simp) (by simp) hul B3.size ?_)
      intro g5 cap5 w5 hos hg5
      have B5 := kide (B3.grown hg5 B3.size (fun b hb => (T3.own.lt hb).1))
      have T5 := kide (T3.push hos hg5 N4 (by rw [HSN.out]; rfl))
      clear B3 T3 N4 hos hg5 hba hul l2 X2 hb2
      go_wp2_with fail
      go_roundw
      case rel => exact ⟨k + 1, _, HLT.out, by go_num, by simpa using T5.out, B5.out⟩
      case measure => have := HLT.out; simp only [intOf]; omega
    · have e9 : k = n := by omega
      subst e9
      have hl := ht.len (by rw [HKS.out.1]; exact hk)
      obtain ⟨a, c, rfl, hrd⟩ := ht.own.rd (by omega) (fun x hx => by
        have h9 : x.ct ∈ zct (ks.take k) := ht.ct ▸ List.mem_map_of_mem hx
        obtain ⟨V, hV, e⟩ := List.mem_map.1 h9
        have hV2 := HKS.out.2 V (List.mem_of_mem_take hV)
        have e1 : x.wd = V := (congrArg Prod.fst e).symm
        have e2 : x.ws = zeros V.toNat := (congrArg Prod.snd e).symm
        refine ⟨(ht.nw x hx).rd ?_ ?_, by rw [e1]; unfold in64; omega⟩
        · rw [e2]; have := zeros_len V.toNat (by omega); omega
        · rw [e2]; exact zeros_lt _)
      rw [hl]
      have hct := ht.ct
      rw [List.take_of_length_le (by rw [HKS.out.1]; exact Nat.le_refl _)] at hct
      go_wp2_with fail
      go_ret
      exact ⟨a, c, l, rfl, hrd, hct, hb⟩

end Go.Proofs.Ythoiajpbpoglfaa

/- Numbers rising, each once, on the given side. -/
namespace Go.Proofs.Ythoiajpbpoglfaa
set_option linter.unusedVariables false
set_option linter.unusedSimpArgs false
open Go.RowKit Go.WideMaps Go.Maps

/-- How many of the first n are not above x, from the end on. -/
def posI (out : List Int) (x : Int) : Nat → Nat
  | 0 => 0
  | n + 1 => if out.getD n 0 > x then posI out x n else n + 1
def insI (out : List Int) (x : Int) : List Int := out.take (posI out x out.length) ++ x :: out.drop (posI out x out.length)
def risI (out : List Int) : List Int → List Int
  | [] => out
  | x :: t => risI (if x ∈ out then out else insI out x) t

theorem posI_le (out : List Int) (x : Int) : ∀ n, posI out x n ≤ n
  | 0 => Nat.le_refl _
  | n + 1 => by
    unfold posI
    split
    · exact Nat.le_trans (posI_le out x n) (Nat.le_succ _)
    · exact Nat.le_refl _
theorem insI_mem (out : List Int) (x y : Int) : y ∈ insI out x ↔ y = x ∨ y ∈ out := by
  unfold insI
  rw [List.mem_append, List.mem_cons]
  conv => rhs; rw [← List.take_append_drop (posI out x out.length) out, List.mem_append]
  constructor
  · rintro (h | h | h)
    · exact .inr (.inl h)
    · exact .inl h
    · exact .inr (.inr h)
  · rintro (h | h | h)
    · exact .inr (.inl h)
    · exact .inl h
    · exact .inr (.inr h)
theorem insI_len (out : List Int) (x : Int) : (insI out x).length = out.length + 1 := by
  have := posI_le out x out.length
  unfold insI
  simp
  omega

/-- A row of numbers of one's own. -/
def OI1 (w : World) (B : Nat) (v : Value) (xs : List Int) : Prop := w.ownsRow B 2 1 v xs.length (xs.map (Value.int .i64))

theorem OI1.form {w : World} {B : Nat} {v : Value} {xs : List Int} (h : OI1 w B v xs) : ∃ a c, v = .slice a xs.length c := by
  rcases h.2 with ⟨e, h0⟩ | ⟨g, cap, cur, e, -⟩
  · exact ⟨none, 0, by rw [e, h0]⟩
  · exact ⟨_, _, e⟩
theorem OI1.rd {w : World} {B n c : Nat} {a : Option Addr} {xs : List Int} (h : OI1 w B (.slice a n c) xs) (hl : xs.length ≤ 1048576) (hx : ∀ x ∈ xs, in64 x) : RdI w a xs := by
  rcases h.2 with ⟨e, h0⟩ | ⟨g, cap, cur, e, hg, hh, hc1, hc2, hsz, hcur⟩
  · have e := List.eq_nil_of_length_eq_zero h0
    subst e
    exact ⟨by simp, by simp, .inl rfl⟩
  · cases e
    refine ⟨hl, hx, .inr ⟨g, 0, rfl, fun i hi => ?_⟩⟩
    have h3 : (cur.toList.take (xs.length * 1))[i]? = (xs.map (Value.int .i64))[i]? := by rw [hcur]
    rw [List.getElem?_take, if_pos (by omega)] at h3
    simp only [Array.getElem?_toList] at h3
    rw [Nat.zero_add, cell_of_row w g i cur _ _ hh, h3]
    simp [List.getD, hi]

theorem OI1.cell {w : World} {B n c g : Nat} {xs : List Int} (h : OI1 w B (.slice (some ⟨g, 0, none⟩) n c) xs) {i : Nat} {x : Int} (hi : xs[i]? = some x) : w.cell? ⟨g, i, none⟩ = some (.int .i64 x) := by
  have hil := (List.getElem?_eq_some_iff.1 hi).1
  rcases h.2 with ⟨e, h0⟩ | ⟨g', cap, cur, e, hg, hh, hc1, hc2, hsz, hcur⟩
  · cases e
  · cases e
    have h3 : (cur.toList.take (xs.length * 1))[i]? = (xs.map (Value.int .i64))[i]? := by rw [hcur]
    rw [List.getElem?_take, if_pos (by omega)] at h3
    simp only [Array.getElem?_toList] at h3
    rw [cell_of_row w _ i cur _ _ hh, h3]
    simp [hi]
theorem OI1.froz {w : World} {B n c g : Nat} {xs : List Int} (h : OI1 w B (.slice (some ⟨g, 0, none⟩) n c) xs) (i : Nat) : w.frozen? ⟨g, i, none⟩ = false := by
  rcases h.2 with ⟨e, h0⟩ | ⟨g', cap, cur, e, hg, hh, hc1, hc2, hsz, hcur⟩
  · cases e
  · cases e
    exact frozen_of_row w _ i _ _ hh
theorem OI1.set {w : World} {B n c g : Nat} {xs : List Int} (h : OI1 w B (.slice (some ⟨g, 0, none⟩) n c) xs) {i : Nat} (hi : i < xs.length) (x : Int) : OI1 (w.setCell ⟨g, i, none⟩ (.int .i64 x)) B (.slice (some ⟨g, 0, none⟩) n c) (xs.set i x) := by
  rcases h.2 with ⟨e, h0⟩ | ⟨g', cap, cur, e, hg, hh, hc1, hc2, hsz, hcur⟩
  · cases e
  · cases e
    refine ⟨by simp, .inr ⟨g, c, cur.setIfInBounds i (.int .i64 x), by simp, hg, heap_setCell_same w g i _ _ _ hh, by simpa using hc1, hc2, by simpa using hsz, ?_⟩⟩
    rw [Array.toList_setIfInBounds, List.map_set, ← hcur, List.take_set]
    simp
theorem OI1.later {w w' : World} {B : Nat} {v : Value} {xs : List Int} (h : OI1 w B v xs) (hb : Below w.heap.size w w') : OI1 w' B v xs := owr_move h (fun b hb' => by obtain ⟨⟨cur, hc⟩, -⟩ := owr_typed h hb'; exact hb.block b (lt_of_block hc))
theorem OI1.empty (w : World) (B : Nat) (h : B ≤ w.heap.size) : OI1 (w.alloc (.cells #[] 2)) B (.slice (some ⟨w.heap.size, 0, Option.none⟩) 0 0) [] := World.ownsRow_made w #[] 0 h (Nat.zero_le _) (by simp)
theorem OI1.lt {w : World} {B n c g : Nat} {xs : List Int} (h : OI1 w B (.slice (some ⟨g, 0, none⟩) n c) xs) : B ≤ g ∧ g < w.heap.size := by
  obtain ⟨⟨cur, hc⟩, hg⟩ := owr_typed h (b := g) rfl
  exact ⟨hg, lt_of_block hc⟩

theorem oi1_of {w : World} {B : Nat} {v : Value} {out : List Int} {x : Int} (h : w.ownsRow B 2 1 v (out.length + 1) (out.map (Value.int .i64) ++ [Value.int .i64 x])) : ∃ g c, v = .slice (some ⟨g, 0, none⟩) (out.length + 1) c ∧ OI1 w B (.slice (some ⟨g, 0, none⟩) (out.length + 1) c) (out ++ [x]) := by
  have h2 : OI1 w B v (out ++ [x]) := by
    unfold OI1
    simpa using h
  rcases h2.2 with ⟨e, h0⟩ | ⟨g, cap, cur, e, r⟩
  · simp at h0
  · have e' : v = .slice (some ⟨g, 0, none⟩) (out.length + 1) cap := by simpa using e
    exact ⟨g, cap, e', by rw [← e']; exact h2⟩

theorem hole_set (old : List Int) (y v : Int) {k : Nat} (hk : k ≤ old.length) : (old.take k ++ y :: old.drop k).set k v = old.take k ++ v :: old.drop k := by
  rw [List.set_append_right _ _ (by simp; omega)]
  simp [Nat.min_eq_left hk]
theorem hole_step (old : List Int) {k : Nat} {z : Int} (hz : old[k]? = some z) : old.take (k + 1) ++ z :: old.drop (k + 1) = old.take k ++ z :: old.drop k := by
  have hk := (List.getElem?_eq_some_iff.1 hz).1
  rw [List.take_add_one, hz, List.drop_eq_getElem_cons hk]
  have e : old[k] = z := (List.getElem?_eq_some_iff.1 hz).2
  rw [e]
  simp
theorem hole_get (old : List Int) (y : Int) {k j : Nat} {z : Int} (hj : j < k) (hz : old[j]? = some z) (hk : k ≤ old.length) : (old.take k ++ y :: old.drop k)[j]? = some z := by
  rw [List.getElem?_append_left (by simp; omega), List.getElem?_take, if_pos hj]
  exact hz

def RetI (w : World) (r : List Int) (e : Ending) (w' : World) : Prop := ∃ v, e = .returned v ∧ OI1 w' w.heap.size v r ∧ Below w.heap.size w w'

theorem risI_step {ks : List Int} {k : Nat} {x : Int} (h : ks[k]? = some x) (out : List Int) : risI out (ks.take (k + 1)) = (if x ∈ risI out (ks.take k) then risI out (ks.take k) else insI (risI out (ks.take k)) x) := by
  have gen : ∀ (xs : List Int) (out : List Int), risI out (xs ++ [x]) = (if x ∈ risI out xs then risI out xs else insI (risI out xs) x) := by
    intro xs
    induction xs with
    | nil => intro out; rfl
    | cons y t ih => intro out; simp only [List.cons_append, risI]; exact ih _
  rw [List.take_add_one, h]
  exact gen _ out
theorem risI_mem : ∀ (xs out : List Int) (y : Int), y ∈ risI out xs ↔ y ∈ out ∨ y ∈ xs
  | [], out, y => by simp [risI]
  | x :: t, out, y => by
    rw [risI, risI_mem t]
    by_cases e : x ∈ out
    · rw [if_pos e]
      constructor
      · rintro (h | h)
        · exact .inl h
        · exact .inr (List.mem_cons_of_mem _ h)
      · rintro (h | h)
        · exact .inl h
        · rcases List.mem_cons.1 h with rfl | h
          · exact .inl e
          · exact .inr h
    · rw [if_neg e, insI_mem]
      constructor
      · rintro ((rfl | h) | h)
        · exact .inr (by simp)
        · exact .inl h
        · exact .inr (List.mem_cons_of_mem _ h)
      · rintro (h | h)
        · exact .inl (.inr h)
        · rcases List.mem_cons.1 h with rfl | h
          · exact .inl (.inl rfl)
          · exact .inr h
theorem risI_len : ∀ (xs out : List Int), (risI out xs).length ≤ out.length + xs.length
  | [], out => by simp [risI]
  | x :: t, out => by
    rw [risI]
    have := risI_len t (if x ∈ out then out else insI out x)
    have h2 := insI_len out x
    split at this
    · simp; rw [if_pos (by assumption)]; omega
    · simp; rw [if_neg (by assumption)]; omega

set_option maxHeartbeats 2000000 in
set_option maxRecDepth 100000 in
theorem l7Rising_any (a : Option Addr) (c n : Nat) (ks : List Int) (w : World) (hr : RdI w a ks) (hn : ks.length = n) :
    Calls Try.prog 59 #[.slice a n c] w (RetI w (risI [] ks)) := by
  have hl := hr.1
  rw [hn] at hl
  have HR := kide hr
  have HN := kide hn
  clear hr hn
  go_enter Try.func59, Try.ntmps59
  go_wp2_with fail
  have O0 := kide (OI1.empty w w.heap.size (Nat.le_refl _))
  have B0 : Hid (Below w.heap.size w (w.alloc (.cells #[] 2))) := (Below.refl _ _).alloc (Nat.le_refl _) _
  generalize w.alloc (Obj.cells #[] 2) = W at *
  go_loopw [3, 4] (fun v q wr => ∃ k : Nat, k ≤ n ∧ q = .int .i64 (k : Int) ∧ OI1 wr w.heap.size v (risI [] (ks.take k)) ∧ Below w.heap.size w wr) (fun _ q _ => n - (intOf q).toNat)
  case atStart => exact ⟨0, Nat.zero_le _, rfl, O0.out, B0.out⟩
  case round =>
    obtain ⟨k, hk, rfl, ho, hb⟩ := hrel
    have HO := kide ho
    have HB := kide hb
    clear O0 B0
    by_cases hlt : k < n
    · have i0 : (k : Int) < (n : Int) := by omega
      obtain ⟨x, gx⟩ : ∃ x, ks[k]? = some x := ⟨ks[k]'(by rw [HN.out]; exact hlt), List.getElem?_eq_getElem _⟩
      have hst := risI_step gx []
      have hmem : ∀ y ∈ risI [] (ks.take k), in64 y := fun y hy => by
        rcases (risI_mem _ _ _).1 hy with h | h
        · cases h
        · exact HR.out.2.1 y (List.mem_of_mem_take h)
      have hlen : (risI [] (ks.take k)).length ≤ 1048576 := by have h9 := risI_len (ks.take k) []; rw [List.length_take, List.length_nil] at h9; omega
      generalize risI [] (ks.take k) = out at *
      obtain ⟨av, cv, rfl⟩ := ho.form
      have HHAS := kide (fun u (hu : Below wr.heap.size wr u) => l1Has_any av cv out x u ((ho.later hu).rd hlen hmem))
      obtain ⟨-, -, h | ⟨b, o, rfl, hc⟩⟩ := HR.out.later hb
      · rw [h] at gx; simp at gx
      have p0 := hc k (by rw [HN.out]; exact hlt)
      rw [show ks.getD k 0 = x by simp [List.getD, gx]] at p0
      have HXK := kide (show ks.getD k 0 = x by simp [List.getD, gx])
      have HST := kide hst
      have lb := block_lt_of_cell p0
      obtain ⟨m, hm⟩ : ∃ m, out.length = m := ⟨_, rfl⟩
      rw [hm] at HHAS HO hlen ⊢
      have HM := kide hm
      clear hc hst ho hb gx hmem hm
      by_cases hin : x ∈ out
      · rw [decide_eq_true hin] at HHAS
        rw [if_pos hin] at HST
        go_wp2_with fail
        refine Calls.mono (HHAS.out _ (Below.refl _ _)) ?_
        rintro e w3 ⟨rfl, hw3⟩
        obtain rfl := hw3.symm
        go_wp2_with fail
        go_roundw
        case rel => exact ⟨k + 1, by omega, by go_num, by rw [HST.out]; exact HO.out, HB.out⟩
        case measure => simp [intOf]; omega
      · rw [decide_eq_false hin] at HHAS
        rw [if_neg hin] at HST
        have hba : Below wr.heap.size wr (wr.alloc (Obj.cells #[Value.int .i64 x] 2)) := (Below.refl _ _).alloc (Nat.le_refl _) _
        have hoa := HO.out.later hba
        unfold OI1 at hoa
        rw [show out.length = (out.map (Value.int .i64)).length by simp] at hoa
        have HOA := kide hoa
        have HBA := kide (HB.out.trans (hba.mono HB.out.size))
        have hzz := HB.out.size
        have hlm : (out.map (Value.int .i64)).length ≤ 1073741824 := by rw [List.length_map, HM.out]; omega
        clear hin hba hoa
        go_wp2_with (first
          | (go_at_call 84; refine Calls.mono (HHAS.out _ (Below.refl _ _)) ?_; rintro e w3 ⟨rfl, hw3⟩; obtain rfl := hw3.symm)
          | (at_builtin; refine wpList_appI8 rfl _ _ rfl w.heap.size _ (out.map (Value.int .i64)) x rfl HOA.out _ rfl (by simp) hlm (by simp; omega) ?_)
          | fail)
        intro v5 w5 ho5 hg5 hat5
        obtain ⟨g5, c5, rfl, ho5'⟩ := oi1_of ho5
        rw [HM.out]
        have HB5 := kide (Below.grown HBA.out hg5 (by simp; omega) (fun j hj => (owr_typed HOA.out hj).2))
        have p5 : w5.cell? ⟨b, o + k, none⟩ = some (Value.int .i64 x) := by
          have h9 := HR.out.later HB5.out
          obtain ⟨-, -, h | ⟨b', o', e', hc⟩⟩ := h9
          · exact absurd HN.out (by rw [h]; simp; omega)
          · cases e'
            rw [hc k (by rw [HN.out]; exact hlt), HXK.out]
        rw [HM.out] at ho5'
        have O5 := kide ho5'
        clear ho5 hg5 hat5 ho5' HOA HBA p0 HO HB
        go_wp2_with fail
        obtain ⟨wo, hwo⟩ : ∃ wo, wo = w5 := ⟨_, rfl⟩
        subst hwo
        have lb5 := block_lt_of_cell p5
        have HPW : Hid (∀ u, Below w.heap.size w u → u.cell? ⟨b, o + k, none⟩ = some (Value.int .i64 x)) := fun u hu => by
          obtain ⟨-, -, h | ⟨b', o', e', hc⟩⟩ := HR.out.later hu
          · exact absurd HN.out (by rw [h]; simp; omega)
          · cases e'
            rw [hc k (by rw [HN.out]; exact hlt), HXK.out]
        have HFIN : Hid (risI [] (ks.take (k + 1)) = out.take (posI out x m) ++ x :: out.drop (posI out x m)) := by show _ = _; rw [HST.out, insI, HM.out]
        clear HHAS HST lb p5 lb5
        have tail : Hid (∀ (q : Nat) (y : Int) (u : World), q ≤ m → OI1 u w.heap.size (.slice (some ⟨g5, 0, none⟩) (m + 1) c5) (out.take q ++ y :: out.drop q) → posI out x m = q → OI1 (u.setCell ⟨g5, q, none⟩ (.int .i64 x)) w.heap.size (.slice (some ⟨g5, 0, none⟩) (m + 1) c5) (risI [] (ks.take (k + 1)))) := fun q y u hq ho hp => by
          have h9 := ho.set (i := q) (by rw [List.length_append, List.length_cons, List.length_take, List.length_drop, HM.out]; omega) x
          rw [hole_set _ _ _ (by rw [HM.out]; exact hq)] at h9
          rw [HFIN.out, hp]
          exact h9
        go_loopw [5] (fun s wr => ∃ (q : Nat) (y : Int), q ≤ m ∧ s = .int .i64 (q : Int) ∧ OI1 wr w.heap.size (.slice (some ⟨g5, 0, none⟩) (m + 1) c5) (out.take q ++ y :: out.drop q) ∧ posI out x m = posI out x q ∧ Below w.heap.size w wr) (fun s _ => (intOf s).toNat)
        case atStart => exact ⟨m, x, Nat.le_refl _, rfl, by rw [List.take_of_length_le (by rw [HM.out]; exact Nat.le_refl _), List.drop_eq_nil_of_le (by rw [HM.out]; exact Nat.le_refl _)]; exact O5.out, rfl, HB5.out⟩
        case round =>
          obtain ⟨q, y, hq, rfl, hoq, hpq, hbq⟩ := hrel
          have OQ := kide hoq
          have BQ := kide hbq
          have HPQ := kide hpq
          have pw := HPW.out wr hbq
          have hg5 := hoq.lt
          have hlL : (out.take q ++ y :: out.drop q).length = m + 1 := by rw [List.length_append, List.length_cons, List.length_take, List.length_drop, HM.out]; omega
          have hm1 : (m : Int) + 1 ≤ 9223372036854775807 := by omega
          have hqm : (q : Int) < ((m + 1 : Nat) : Int) := by omega
          clear hpq
          by_cases hq0 : q = 0
          · subst hq0
            have fz := hoq.froz 0
            obtain ⟨y0, hy0⟩ : ∃ y0, (out.take 0 ++ y :: out.drop 0)[0]? = some y0 := ⟨_, List.getElem?_eq_getElem (by rw [hlL]; omega)⟩
            have cz := hoq.cell hy0
            have HT := kide (fun N => tail.out 0 y (wr.drewN N) (Nat.zero_le _) (hoq.later (below_drewN (Below.refl _ _) N)) (by rw [HPQ.out]; rfl))
            clear hoq hbq hy0 hlL
            go_wp2_with fail
            go_quiet (fail)
            go_wp2_with fail
            exact ⟨⟨k + 1, by omega, by go_num, HT.out _, (below_drewN BQ.out _).setCell hg5.1 _⟩, by simp [intOf]; omega⟩
          · obtain ⟨j, hj⟩ : ∃ j, q = j + 1 := ⟨q - 1, by omega⟩
            obtain ⟨z, hz⟩ : ∃ z, out[j]? = some z := ⟨out[j]'(by rw [HM.out]; omega), List.getElem?_eq_getElem _⟩
            have cj := hoq.cell (hole_get out y (k := q) (j := j) (by omega) hz (by rw [HM.out]; exact hq))
            obtain ⟨yq, hyq⟩ : ∃ yq, (out.take q ++ y :: out.drop q)[q]? = some yq := ⟨_, List.getElem?_eq_getElem (by rw [hlL]; omega)⟩
            have cq := hoq.cell hyq
            have fq := hoq.froz q
            have j1 : (q : Int) - 1 = (j : Int) := by omega
            have j2 : IntKind.i64.wrap (j : Int) = (j : Int) := by rw [IntKind.wrap_i64]; omega
            have j3 : (j : Int) < ((m + 1 : Nat) : Int) := by omega
            have q1 : 0 < q := by omega
            have HJ := kide hj
            have HZ := kide hz
            have hpos : posI out x q = if z > x then posI out x j else q := by
              rw [hj]
              show (if out.getD j 0 > x then posI out x j else j + 1) = _
              rw [show out.getD j 0 = z by simp [List.getD, hz]]
            clear hyq hlL hz hj
            by_cases hzx : x < z
            · have HT : Hid (∀ N, OI1 ((wr.drewN N).setCell ⟨g5, q, none⟩ (.int .i64 z)) w.heap.size (.slice (some ⟨g5, 0, none⟩) (m + 1) c5) (out.take j ++ z :: out.drop j)) := fun N => by
                have h9 := (hoq.later (below_drewN (Below.refl _ _) N)).set (i := q) (by rw [List.length_append, List.length_cons, List.length_take, List.length_drop, HM.out]; omega) z
                rw [hole_set _ _ _ (by rw [HM.out]; exact hq), HJ.out, hole_step out HZ.out] at h9
                rw [HJ.out]
                exact h9
              have HPJ : Hid (posI out x m = posI out x j) := by show _ = _; rw [HPQ.out, hpos, if_pos hzx]
              clear hoq hbq hpos
              go_wp2_with fail
              go_quiet (fail)
              go_wp2_with fail
              exact ⟨⟨j, z, by omega, rfl, HT.out _, HPJ.out, (below_drewN BQ.out _).setCell hg5.1 _⟩, by simp [intOf]; omega⟩
            · have HT := kide (fun N => tail.out q y (wr.drewN N) hq (hoq.later (below_drewN (Below.refl _ _) N)) (by rw [HPQ.out, hpos, if_neg hzx]))
              clear hoq hbq hpos
              go_wp2_with fail
              go_quiet (fail)
              simp only [show decide (x < z) = false from decide_eq_false (by omega)]
              clear j1 j2 j3 cj q1 hq0 hzx
              go_wp2_with fail
              exact ⟨⟨k + 1, by omega, by go_num, HT.out _, (below_drewN BQ.out _).setCell hg5.1 _⟩, by simp [intOf]; omega⟩
    · have e : k = n := by omega
      subst e
      rw [List.take_of_length_le (by rw [HN.out]; exact Nat.le_refl _)] at HO
      clear ho
      go_wp2_with fail
      go_ret
      exact ⟨_, rfl, HO.out, HB.out⟩

end Go.Proofs.Ythoiajpbpoglfaa
