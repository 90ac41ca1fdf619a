/- Several texts in one. -/
import Derived.Test.YtmfamdonbgmjbaaDoorZGAH
import Derived.Test.YtmfamdonbgmjbaaDoorZGAD
import Derived.Test.YtmfamdonbgmjbaaDoorZGAE
import Derived.Deep.LoopGhost
import Derived.Test.YtmfamdonbgmjbaaDoorZGAG

/- follow. -/
namespace Go.Proofs.YtmfamdonbgmjbaaDoor
set_option linter.unusedVariables false
set_option linter.unusedSimpArgs false
open Go.RowKit

/-- A block beside the watcher. -/
def Wb.more (M : Wb) (x : Nat × Array Value × TypeId) : Wb := ⟨x :: M.ex, M.bx, M.ey, M.wt, M.st, M.du⟩
theorem Wm.more {u : World} {B : Nat} {M : Wb} {S N : Nat} {ca : Option Addr} {nc cc : Nat} {tv : Value} {eyl : List (Nat × Nat)} {rows : List (Value × List Nat)} {T : List Int} {ws : List Nat} (h : Wm u B M S N ca nc cc tv eyl rows T ws) {x : Nat × Array Value × TypeId} (hx : Bz u x.1 x.2.1 x.2.2) (ho : okX x.2.2) : Wm u B (M.more x) S N ca nc cc tv eyl rows T ws :=
  ⟨h.bx, h.ey, h.wt, h.st, h.du, h.tr, h.rw, h.ap, h.lo, h.ne, h.nr, h.wl, h.sz, fun y hy => by
    rcases List.mem_cons.1 hy with rfl | hy
    · exact ⟨hx, ho⟩
    · exact h.xx y hy⟩
theorem Wm.less {u : World} {B : Nat} {M : Wb} {S N : Nat} {ca : Option Addr} {nc cc : Nat} {tv : Value} {eyl : List (Nat × Nat)} {rows : List (Value × List Nat)} {T : List Int} {ws : List Nat} {x : Nat × Array Value × TypeId} (h : Wm u B (M.more x) S N ca nc cc tv eyl rows T ws) : Wm u B M S N ca nc cc tv eyl rows T ws :=
  ⟨h.bx, h.ey, h.wt, h.st, h.du, h.tr, h.rw, h.ap, h.lo, h.ne, h.nr, h.wl, h.sz, fun y hy => h.xx y (List.mem_cons_of_mem _ hy)⟩
theorem Wm.box {u : World} {B : Nat} {M : Wb} {S N : Nat} {ca : Option Addr} {nc cc : Nat} {tv : Value} {eyl : List (Nat × Nat)} {rows : List (Value × List Nat)} {T : List Int} {ws : List Nat} {x : Nat × Array Value × TypeId} (h : Wm u B (M.more x) S N ca nc cc tv eyl rows T ws) : Bz u x.1 x.2.1 x.2.2 := (h.xx x List.mem_cons_self).1
theorem okX_ptr : okX 58 := ⟨by decide, by decide, by decide, by decide, by decide, by decide, by decide⟩
/-- Whether one stands, and the first that can. -/
theorem any_met (T cl : List Int) : cl.any (fun n => decide (n ∈ T)) = metB T cl := rfl
theorem opn_first {T cl : List Int} {i : Nat} {x : Int} (hm : metB T cl = false) (hi : cl[i]? = some x) (hx : (!decide (-x ∈ T)) = true) (ha : ∀ (j : Nat) y, j < i → cl[j]? = some y → (!decide (-y ∈ T)) = false) : ∃ t, opn T cl = x :: t := by
  have hp : ∀ y ∈ cl, (decide (y ∉ T) && decide (-y ∉ T)) = !decide (-y ∈ T) := fun y hy => by
    have := met_no hm hy
    simp [this]
  unfold opn
  rw [List.filter_congr hp]
  clear hp hm
  induction cl generalizing i with
  | nil => simp at hi
  | cons c t ih =>
    cases i with
    | zero =>
      have : c = x := by simpa using hi
      subst this
      rw [List.filter_cons, if_pos hx]
      exact ⟨_, rfl⟩
    | succ i =>
      rw [List.filter_cons, if_neg (by rw [ha 0 c (by omega) (by simp)]; decide)]
      exact ih (i := i) (by simpa using hi) (fun j y hj hy => ha (j + 1) y (by omega) (by simpa using hy))
theorem opn_no {T cl : List Int} (ha : ∀ y ∈ cl, (!decide (-y ∈ T)) = false) : opn T cl = [] := by
  unfold opn
  rw [List.filter_eq_nil_iff]
  intro y hy
  have := ha y hy
  simp at this
  simp [this]
/-- How much is still to be done. -/
def muF (S nc : Nat) (T : List Int) (ws : List Nat) : Nat := (S - T.length) * (nc + 1) + ((List.range nc).filter (plB ws)).length
theorem muF_drop {S nc p : Nat} {T : List Int} {ws ws' : List Nat} (hp : p < nc) (h1 : plB ws p = true) (h2 : ∀ q, plB ws' q = (plB ws q && decide (q ≠ p))) : muF S nc T ws' < muF S nc T ws := by
  unfold muF
  apply Nat.add_lt_add_left
  have e : (List.range nc).filter (plB ws') = ((List.range nc).filter (plB ws)).filter (fun q => decide (q ≠ p)) := by
    rw [List.filter_filter]
    refine List.filter_congr fun q _ => ?_
    rw [h2 q, Bool.and_comm]
  rw [e]
  apply List.length_filter_lt_length_iff_exists.2
  exact ⟨p, List.mem_filter.2 ⟨List.mem_range.2 hp, h1⟩, by simp⟩
theorem muF_put {S nc : Nat} {T : List Int} {x : Int} {ws ws' : List Nat} (h : (T ++ [x]).length ≤ S) : muF S nc (T ++ [x]) ws' < muF S nc T ws := by
  unfold muF
  rw [List.length_append, List.length_singleton] at h ⊢
  have h1 : ((List.range nc).filter (plB ws')).length ≤ nc := by
    have := List.length_filter_le (plB ws') (List.range nc)
    rwa [List.length_range] at this
  obtain ⟨d, hd⟩ : ∃ d, S - T.length = d + 1 := ⟨S - T.length - 1, by omega⟩
  rw [hd, show S - (T.length + 1) = d by omega, Nat.succ_mul]
  omega
theorem enter_isSo : ∀ args w, Sem.run Tryd.prog (callFunc 65 args) w = .ok (.enter 65 args) w := fun args w => by rfl
theorem enter_follow1 : ∀ args w, Sem.run Tryd.prog (callFunc 67 args) w = .ok (.enter 67 args) w := fun args w => by rfl
theorem RdII.at {w : World} {a : Option Addr} {xs : List Iw} (h : RdII w a xs) {i : Nat} {x : Iw} (hi : xs[i]? = some x) : ∃ b o, a = some ⟨b, o, none⟩ ∧ w.cell? ⟨b, o + i, none⟩ = some (.slice x.a x.ks.length x.c) ∧ RdI w x.a x.ks := by
  rcases h.2 with h0 | ⟨b, o, h1, h2⟩
  · subst h0; simp at hi
  · exact ⟨b, o, h1, (h2 i x hi).1, (h2 i x hi).2⟩
/-- What follow leaves. -/
def RetFo (w u : World) (M : Wb) (S N : Nat) (ca : Option Addr) (nc cc : Nat) (cs : List (List Int)) (wl : Nat) (R : List Int × Bool) (e : Ending) (w' : World) : Prop :=
  e = .returned (.bool R.2) ∧ ∃ tv eyl rows ws du, Wm w' w.heap.size M S N ca nc cc tv eyl rows R.1 ws ∧ Wi cs R.1 (eyF eyl) (wtF S rows) du ∧ Tk S R.1 ∧ ws.length = wl ∧ (R.2 = true → du = plB ws ∧ cs.find? (dueB R.1) = none) ∧ Below w.heap.size u w'
set_option maxHeartbeats 4000000 in
set_option maxRecDepth 100000 in
theorem follow_any {w u : World} {M : Wb} {S N : Nat} {ca : Option Addr} {nc cc : Nat} {tv : Value} {eyl : List (Nat × Nat)} {rows : List (Value × List Nat)} {T : List Int} {ws : List Nat} (R : List Int × Bool) (xs : List Iw) (h : Wm u w.heap.size M S N ca nc cc tv eyl rows T ws) (hwi : Wi (xs.map Iw.ks) T (eyF eyl) (wtF S rows) (plB ws)) (hTk : Tk S T) (hUq : Uq S (xs.map Iw.ks) T R) (hc : RdII w ca xs) (hnc : xs.length = nc) (hn4 : nc ≤ 4000) (hbl : Below w.heap.size w u) (hS : S ≤ 400)
    (hcs : ∀ cl ∈ xs.map Iw.ks, Cd cl ∧ cl.length ≤ 400 ∧ ∀ x ∈ cl, x ≠ 0 ∧ -(S : Int) ≤ x ∧ x ≤ (S : Int)) (hws : ∀ p, p < nc → p / 64 < ws.length) (hw9 : ws.length ≤ 4000) (hT : TabAt 0 Lib.deBruijn64tab w) (h0 : 0 < w.heap.size) :
    Calls Tryd.prog 38 #[.pointer (some ⟨M.bx, 0, none⟩)] u (RetFo w u M S N ca nc cc (xs.map Iw.ks) ws.length R) := by
  obtain ⟨bo, hbo⟩ : ∃ bo, u.heap.size = bo := ⟨_, rfl⟩
  have hal : Below u.heap.size u (u.alloc (Obj.cells #[Value.pointer (some ⟨M.bx, 0, none⟩)] 58)) := (Below.refl _ _).alloc (Nat.le_refl _) _
  have hbn := Bz.new u #[Value.pointer (some ⟨M.bx, 0, none⟩)] 58
  have HW := kide ((h.later hal).more (x := (u.heap.size, #[Value.pointer (some ⟨M.bx, 0, none⟩)], 58)) hbn okX_ptr)
  have B0 := kide (hal.mono hbl.size)
  have HWI := kide hwi
  have HTK := kide hTk
  have HUQ := kide hUq
  have HC := kide hc
  have HBL := kide hbl
  have HCS := kide hcs
  have HWS := kide hws
  have HT := kide hT
  rw [hbo] at HW
  clear h hwi hTk hUq hc hbl hcs hws hT hal hbn
  go_enter Tryd.func38, Tryd.ntmps38
  go_wp2_with fail
  generalize u.alloc (Obj.cells #[Value.pointer (some ⟨M.bx, 0, none⟩)] 58) = u0 at *
  obtain ⟨X, hX⟩ : ∃ X : Nat × Array Value × TypeId, (bo, #[Value.pointer (some ⟨M.bx, 0, none⟩)], 58) = X := ⟨_, rfl⟩
  rw [hX] at HW
  have HX := kide hX
  clear hX
  go_loopg [] (muF S nc T ws) (fun g wr => ∃ T1 tv1 eyl1 rows1 ws1, Wm wr w.heap.size (M.more X) S N ca nc cc tv1 eyl1 rows1 T1 ws1 ∧ Wi (xs.map Iw.ks) T1 (eyF eyl1) (wtF S rows1) (plB ws1) ∧ Tk S T1 ∧ Uq S (xs.map Iw.ks) T1 R ∧ ws1.length = ws.length ∧ Below w.heap.size u wr ∧ muF S nc T1 ws1 ≤ g)
  case atStart => exact ⟨T, tv, eyl, rows, ws, HW.out, HWI.out, HTK.out, HUQ.out, rfl, B0.out, Nat.le_refl _⟩
  case round =>
    obtain ⟨T1, tv1, eyl1, rows1, ws1, hw1, hwi1, htk1, huq1, hwl1, hb1, hmu⟩ := hrel
    have W1 := kide hw1
    have WI1 := kide hwi1
    have TK1 := kide htk1
    have UQ1 := kide huq1
    have WL1 := kide hwl1
    have B1 := kide hb1
    have MU := kide hmu
    clear HW HWI HTK HUQ B0 hw1 hwi1 htk1 huq1 hwl1 hb1 hmu
    have d0 : wr.cell? ⟨bo, 0, none⟩ = some (Value.pointer (some ⟨M.bx, 0, none⟩)) := by have := W1.out.box; rw [← HX.out] at this; exact this.cell 0
    have d6 : wr.cell? ⟨M.bx, 6, none⟩ = some (.slice (some ⟨M.du, 0, none⟩) ws1.length ws1.length) := W1.out.bx.cell 6
    have hdu0 : M.du ≠ 0 := by have := W1.out.lo.2.2.2.2; show M.du ≠ 0; have h9 : w.heap.size ≤ M.du := this; omega
    have TB : Hid (TabAt 0 Lib.deBruijn64tab wr) := fun j hj => ((HBL.out.trans B1.out).cell (p := ⟨0, j, none⟩) h0).trans (HT.out j hj)
    have HTL := kide (takeLeast_any M.du ws1.length ws1.length ws1 wr W1.out.du rfl (by have := WL1.out; omega) W1.out.wl TB.out hdu0)
    clear hdu0
    go_wp2_with fail
    refine Calls.mono HTL.out ?_
    rintro e v ⟨p, f, ws2, rfl, hbz, hob, hl2, hlt2, hcase⟩
    have W2 := kide (W1.out.duAt hob hbz hl2 hlt2)
    have B2 := kide (B1.out.trans (hob.bel W1.out.lo.2.2.2.2 (HBL.out.trans B1.out).size))
    have WL2 := kide (hl2.trans WL1.out)
    clear hbz hob hl2 hlt2 HTL TB d0 d6
    rcases hcase with ⟨rfl, rfl, hno⟩ | ⟨rfl, hp1, hp2, hp3⟩
    · have hR := UQ1.out.none TK1.out.len (WI1.out.none (fun cl hcl => (HCS.out cl hcl).1) hno)
      have HF := kide (WI1.out.none (fun cl hcl => (HCS.out cl hcl).1) hno)
      subst hR
      clear hno
      go_wp2_with fail
      go_ret
      exact ⟨rfl, tv1, eyl1, rows1, ws2, _, W2.out.less, WI1.out, TK1.out, WL1.out, fun _ => ⟨rfl, HF.out⟩, B2.out⟩
    · have hpc := WI1.out.r p hp1
      rw [List.length_map] at hpc
      obtain ⟨x, hx⟩ : ∃ x, xs[p]? = some x := ⟨_, List.getElem?_eq_getElem hpc⟩
      have hcl : (xs.map Iw.ks)[p]? = some x.ks := by rw [List.getElem?_map, hx]; rfl
      obtain ⟨b2, o2, hca, hcell, hrd⟩ := HC.out.at hx
      obtain ⟨xa, xc, cl⟩ := x
      simp only [] at hcl hcell hrd
      obtain ⟨hcd, hl4, hcn⟩ := HCS.out cl (List.mem_of_getElem? hcl)
      have hb9 := HBL.out.trans B2.out
      have d0 : v.cell? ⟨bo, 0, none⟩ = some (Value.pointer (some ⟨M.bx, 0, none⟩)) := by have := W2.out.box; rw [← HX.out] at this; exact this.cell 0
      have d1 : v.cell? ⟨M.bx, 1, none⟩ = some (.slice ca nc cc) := W2.out.bx.cell 1
      have d2 : v.cell? ⟨b2, o2 + p, none⟩ = some (.slice xa cl.length xc) := by rw [kcell hb9 _ _ (block_lt_of_cell hcell)]; exact hcell
      have hrv := hrd.later hb9
      have HCO := kide (ContainsM_any 65 enter_isSo (.pointer (some ⟨M.bx, 0, none⟩)) (fun n => decide (n ∈ T1)) xa xc cl.length cl v hrv rfl (fun u' hu y hy => isSo_any (W2.out.later hu) hS y (hcn y hy).2))
      rw [any_met] at HCO
      subst hca
      have i0 : (p : Int) < (nc : Int) := by omega
      have HRV := kide hrv
      have HCL := kide hcl
      have HP1 := kide hp1
      have HP2 := kide hp2
      have HP3 := kide hp3
      have HCN := kide hcn
      have HCD := kide hcd
      have HPC : Hid (p < nc) := by show p < nc; omega
      obtain ⟨ln, hln⟩ : ∃ ln, cl.length = ln := ⟨_, rfl⟩
      rw [hln] at d2 HCO hl4
      have HLN := kide hln
      clear hrv hcl hp1 hp2 hp3 hcn hcd hcell hrd hb9 hx hpc hln
      obtain ⟨mb, hmb⟩ : ∃ mb, metB T1 cl = mb := ⟨_, rfl⟩
      rw [hmb] at HCO
      have HMB := kide hmb
      clear hmb
      cases mb with
      | true =>
        go_wp2_with fail
        refine Calls.mono HCO.out ?_
        rintro e v3 ⟨rfl, hb3⟩
        have W3 := kide (W2.out.later hb3)
        have B3 := kide (B2.out.trans (hb3.mono (HBL.out.trans B2.out).size))
        have WI3 : Hid (Wi (xs.map Iw.ks) T1 (eyF eyl1) (wtF S rows1) (plB ws2)) := WI1.out.drop HCL.out HMB.out (by rw [HP3.out]; simp) (fun q hq => by rw [HP3.out]; simp [hq])
        have MU3 : Hid (muF S nc T1 ws2 < gk) := Nat.lt_of_lt_of_le (muF_drop HPC.out HP1.out HP3.out) MU.out
        clear hb3 d0 d1 d2 HCO
        go_wp2_with fail
        go_roundg (muF S nc T1 ws2)
        case measure => exact MU3.out
        case rel => exact ⟨T1, tv1, eyl1, rows1, ws2, W3.out, WI3.out, TK1.out, UQ1.out, WL2.out, B3.out, Nat.le_refl _⟩
      | false =>
        go_wp2_with fail
        refine Calls.mono HCO.out ?_
        rintro e v3 ⟨rfl, hb3⟩
        have W3 := kide (W2.out.later hb3)
        have B3 := kide (B2.out.trans (hb3.mono (HBL.out.trans B2.out).size))
        have RV3 := kide (HRV.out.later hb3)
        have d3 : v3.cell? ⟨bo, 0, none⟩ = some (Value.pointer (some ⟨M.bx, 0, none⟩)) := by have := W3.out.box; rw [← HX.out] at this; exact this.cell 0
        have HIX := kide (IndexX_any 67 enter_follow1 (.pointer (some ⟨bo, 0, none⟩)) (fun y => !decide (-y ∈ T1)) xa xc cl.length cl v3 RV3.out rfl (fun u' hu y hy => follow1_any (W3.out.later hu) hS bo (by rw [kcell hu _ _ (block_lt_of_cell d3)]; exact d3) y (HCN.out y hy).2))
        rw [HLN.out] at HIX
        have FND := kide (WI1.out.first (fun c hc => (HCS.out c hc).1) HCL.out HP1.out HP2.out HMB.out)
        clear hb3 d0 d1 d2 d3 HCO
        go_wp2_with fail
        refine Calls.mono HIX.out ?_
        rintro e v4 ⟨r, rfl, hr, hb4⟩
        have W4 := kide (W3.out.later hb4)
        have B4 := kide (B3.out.trans (hb4.mono (HBL.out.trans B3.out).size))
        have RV4 := kide (RV3.out.later hb4)
        clear hb4 HIX
        rcases hr with ⟨rfl, hall⟩ | ⟨i, y, rfl, hi, hy, hah⟩
        · have hR := UQ1.out.bad TK1.out.len FND.out (opn_no hall)
          subst hR
          clear hall
          go_wp2_with fail
          go_ret
          exact ⟨rfl, tv1, eyl1, rows1, ws2, _, W4.out.less, WI1.out, TK1.out, WL2.out, (fun h => by cases h), B4.out⟩
        · obtain ⟨t1, hop⟩ := opn_first HMB.out hi hy hah
          have TK5 : Hid (Tk S (T1 ++ [y])) := TK1.out.snoc (HCN.out y (List.mem_of_getElem? hi)) (met_no HMB.out (List.mem_of_getElem? hi)) (by simpa using hy)
          have UQ5 := kide (UQ1.out.step TK1.out.len FND.out hop)
          have hmet5 : Hid (metB (T1 ++ [y]) cl = true) := metB_iff.2 ⟨y, List.mem_of_getElem? hi, by simp⟩
          have hil := (List.getElem?_eq_some_iff.1 hi).1
          have WIX : Hid (Wi (xs.map Iw.ks) T1 (eyF eyl1) (wtF S rows1) (plX (fun q => decide (q = p)) ws2)) := by
            have e1 : plX (fun q => decide (q = p)) ws2 = plB ws1 := funext fun q => by
              unfold plX
              rw [HP3.out q]
              by_cases e : q = p
              · subst e; rw [HP1.out]; simp
              · simp [e]
            show Wi _ _ _ _ _
            rw [e1]
            exact WI1.out
          obtain ⟨-, -, h9 | ⟨b3, o3, hxa, hc3⟩⟩ := RV4.out
          · subst h9; simp at hi
          have d5 := hc3 i hil
          rw [show cl.getD i 0 = y by rw [List.getD_eq_getElem?_getD, hi]; rfl] at d5
          have D5 := kide d5
          subst hxa
          have j0 : (i : Int) < (ln : Int) := by have := HLN.out; omega
          have HY := kide (HCN.out y (List.mem_of_getElem? hi)).2
          have HTK9 := kide TK1.out.len
          clear hop hil hc3 d5 hi hy hah
          go_wp2_with fail
          refine wp_region_x (SA := fun uu => uu.cell? ⟨bo, 0, none⟩ = some (Value.pointer (some ⟨M.bx, 0, none⟩)) ∧ uu.cell? ⟨b3, o3 + i, none⟩ = some (Value.int .i64 y)) (SB := fun _ => True) (k := 5) (by kernel_rfl) ?_
          have HPUT : Hid (∀ q, Below w.heap.size v4 q → Wm q w.heap.size (M.more X) S N (some ⟨b2, o2, none⟩) nc cc tv1 eyl1 rows1 T1 ws2 → Calls Tryd.prog 37 #[.pointer (some ⟨M.bx, 0, none⟩), .int .i64 y] q _) := fun q hq hW => put_any (M := M.more X) (ex := fun q => decide (q = p)) xs hW WIX.out HC.out hnc hn4 ((HBL.out.trans B4.out).trans hq) hS (fun c hc => ⟨(HCS.out c hc).1, (HCS.out c hc).2.1, fun z hz => ((HCS.out c hc).2.2 z hz).2⟩) (fun q hq => by rw [WL2.out]; exact HWS.out q hq) (by have := HTK9.out; omega) y HY.out
          have hbd : Below v4.heap.size v4 v4.drew := (Below.refl _ _).drew
          have WD0 := kide (W4.out.later hbd)
          have BD0 := kide (hbd.mono (HBL.out.trans B4.out).size)
          have DD0 : Hid (v4.drew.cell? ⟨b3, o3 + i, none⟩ = some (Value.int .i64 y)) := by show _ = _; rw [kcell hbd _ _ (block_lt_of_cell D5.out)]; exact D5.out
          clear hbd
          generalize v4.drew = q0 at *
          have c0_0 : q0.cell? ⟨bo, 0, none⟩ = some (Value.pointer (some ⟨M.bx, 0, none⟩)) := by have := WD0.out.box; rw [← HX.out] at this; exact this.cell 0
          have c1_0 := DD0.out
          have hs0 : Hid ((fun uu => uu.cell? ⟨bo, 0, none⟩ = some (Value.pointer (some ⟨M.bx, 0, none⟩)) ∧ uu.cell? ⟨b3, o3 + i, none⟩ = some (Value.int .i64 y)) q0) := ⟨c0_0, c1_0⟩
          try go_simp
          refine wpAnyX_take (i := 0) (v := Value.pointer (some ⟨M.bx, 0, none⟩)) rfl (by kernel_rfl) (by kernel_rfl) (by kernel_rfl) (fun _ _ _ h => by first | exact h | exact h.elim) (by decide) (by kernel_rfl) (by kernel_rfl) hs0.out (Or.inl ⟨by rfl, fun uu hu => by obtain ⟨e0, e1⟩ := hu; go_simp⟩) ?_
          try go_simp
          refine wpAnyX_both (T := fun _ => True) (i := 1) (v := Value.slice (some ⟨b3, o3, none⟩) ln xc) rfl (by kernel_rfl) (by kernel_rfl) (by kernel_rfl) (fun _ _ _ h => by first | exact h | exact h.elim) (by decide) (fun _ _ => trivial) (fun _ _ => trivial) (Sx.before (by kernel_rfl) hs0.out) (Or.inl ⟨by rfl, fun uu hu => by go_simp⟩) ?_
          try go_simp
          refine wpAnyX_both (T := fun _ => True) (i := 2) (v := Value.int .i64 (i : Int)) rfl (by kernel_rfl) (by kernel_rfl) (by kernel_rfl) (fun _ _ _ h => by first | exact h | exact h.elim) (by decide) (fun _ _ => trivial) (fun _ _ => trivial) (Sx.before (by kernel_rfl) hs0.out) (Or.inl ⟨by rfl, fun uu hu => by go_simp⟩) ?_
          try go_simp
          refine wpAnyX_both (T := fun _ => True) (i := 3) (v := Value.pointer (some ⟨b3, o3 + i, none⟩)) rfl (by kernel_rfl) (by kernel_rfl) (by kernel_rfl) (fun _ _ _ h => by first | exact h | exact h.elim) (by decide) (fun _ _ => trivial) (fun _ _ => trivial) (Sx.before (by kernel_rfl) hs0.out) (Or.inl ⟨by rfl, fun uu hu => by go_simp⟩) ?_
          try go_simp
          refine wpAnyX_take (i := 4) (v := Value.int .i64 y) rfl (by kernel_rfl) (by kernel_rfl) (by kernel_rfl) (fun _ _ _ h => by first | exact h | exact h.elim) (by decide) (by kernel_rfl) (by kernel_rfl) hs0.out (Or.inl ⟨by rfl, fun uu hu => by obtain ⟨e0, e1⟩ := hu; go_simp⟩) ?_
          try go_simp
          refine wpAnyX_ready (rs := [5]) (by kernel_rfl) (by simp) (AllX.cons rfl (fun K hK => ?_) AllX.nil)
          go_simp
          refine Calls.mono (HPUT.out q0 BD0.out WD0.out) ?_
          rintro e q1 ⟨rfl, hr9⟩
          have HR1 := kide hr9
          clear hr9
          refine hK _ _ (Sx.behind (by kernel_rfl) trivial) ?_
          clear hK K
          try go_simp
          refine wpAnyX_done (by kernel_rfl) ?_ _
          obtain ⟨tv5, eyl5, rows5, ws5, hm5, hi5, hl5, hb5⟩ := HR1.out
          have W5 := kide hm5
          have B5 := kide ((B4.out.trans BD0.out).trans hb5)
          have WI5 := kide (hi5.dropX (fun q hq c hc => by
            have e := of_decide_eq_true hq
            subst e
            rw [HCL.out] at hc
            cases hc
            exact hmet5.out))
          have WL5 := kide (hl5.trans WL2.out)
          have MU5 : Hid (muF S nc (T1 ++ [y]) ws5 < gk) := Nat.lt_of_lt_of_le (muF_put TK5.out.len) MU.out
          clear hm5 hi5 hl5 hb5 HR1
          go_wp2_with fail
          go_roundg (muF S nc (T1 ++ [y]) ws5)
          case measure => exact MU5.out
          case rel => exact ⟨T1 ++ [y], tv5, eyl5, rows5, ws5, W5.out, WI5.out, TK5.out, UQ5.out, WL5.out, B5.out, Nat.le_refl _⟩
end Go.Proofs.YtmfamdonbgmjbaaDoor

/- impl.Unit. -/
namespace Go.Proofs.YtmfamdonbgmjbaaDoor
set_option linter.unusedVariables false
set_option linter.unusedSimpArgs false
open Go.RowKit

theorem take_snoc {α : Type} {l : List α} {t : Nat} {x : α} (h : l[t]? = some x) : l.take t ++ [x] = l.take (t + 1) := by
  rw [List.take_add_one, h]; rfl
theorem clR_num {S : Int} : ∀ {l : Int} {ks : List Int}, clR S l ks = true → ∀ n ∈ ks, numR S n = true
  | l, [], _, n, h => by cases h
  | l, k :: t, hc, n, h => by
    rw [clR] at hc
    simp only [Bool.and_eq_true] at hc
    rcases List.mem_cons.1 h with rfl | h
    · exact hc.1.1
    · exact clR_num hc.2 n h
theorem cnfR_parts {S : Int} {cs : List (List Int)} (h : cnfR S cs = true) : 0 ≤ S ∧ S ≤ 400 ∧ cs.length ≤ 4000 ∧ ∀ cl ∈ cs, Cd cl ∧ cl.length ≤ 400 ∧ ∀ x ∈ cl, x ≠ 0 ∧ -S ≤ x ∧ x ≤ S := by
  unfold cnfR at h
  rw [Bool.and_eq_true, Bool.and_eq_true, decide_eq_true_eq, decide_eq_true_eq, List.all_eq_true] at h
  obtain ⟨⟨⟨h1, h2⟩, h3⟩, h4⟩ := h
  refine ⟨h1, h2, h3, fun cl hcl => ?_⟩
  have h5 := h4 cl hcl
  unfold claR at h5
  rw [Bool.and_eq_true, decide_eq_true_eq] at h5
  exact ⟨clR_cd h5.2, h5.1, fun x hx => numR_iff.1 (clR_num h5.2 x hx)⟩
set_option maxHeartbeats 4000000 in
set_option maxRecDepth 100000 in
theorem implUnit_any (S : Int) (ca sa : Option Addr) (cc nc sc ns : Nat) (xs : List Iw) (set : List Int) (w : World) (hS : in64 S) (hc : RdII w ca xs) (hnc : xs.length = nc) (hcap : ∀ x ∈ xs, x.ks.length ≤ x.c) (hs : RdI w sa set) (hns : set.length = ns) (hT : TabAt 0 Lib.deBruijn64tab w) (h0 : 0 < w.heap.size) (HNW : NewWatcherAny) :
    Calls Tryd.prog 11 #[.agg #[.int .i64 S, .slice ca nc cc], .slice sa ns sc] w (RetUn (unitR S (xs.map Iw.ks) set) w) := by
  have hb0 : Below w.heap.size w (w.alloc (Obj.cells #[Value.int .i64 S, Value.slice ca nc cc] 29)) := (Below.refl _ _).alloc (Nat.le_refl _) _
  have X0 := kide (Bz.new w #[Value.int .i64 S, Value.slice ca nc cc] 29)
  have HC := kide hc
  have HS := kide hs
  have B0 := kide hb0
  have HCN := kide (fun u (hu : Below w.heap.size w u) => implCnf_any S ca cc nc xs u (hc.later hu) hnc)
  have HT := kide hT
  have HNS := kide hns
  have HCAP := kide hcap
  have HNW := kide HNW
  have hsl := hs.1
  rw [hns] at hsl
  obtain ⟨R, hR⟩ : ∃ R, unitR S (xs.map Iw.ks) set = R := ⟨_, rfl⟩
  rw [hR]
  unfold unitR at hR
  clear hb0 hc hs hT hns hcap
  cases hq : cnfR S (xs.map Iw.ks) with
  | false =>
    rw [if_neg (by rw [hq]; simp)] at hR
    rw [hq] at HCN
    subst hR
    clear hq
    go_enter Tryd.func11, Tryd.ntmps11
    go_wp2_with fail
    generalize w.alloc (Obj.cells #[Value.int .i64 S, Value.slice ca nc cc] 29) = w0 at *
    have d0 : w0.cell? ⟨w.heap.size, 0, none⟩ = some (Value.int .i64 S) := X0.out.cell 0
    have d1 : w0.cell? ⟨w.heap.size, 1, none⟩ = some (Value.slice ca nc cc) := X0.out.cell 1
    refine Calls.mono (HCN.out _ B0.out) ?_
    rintro e w1 ⟨rfl, hb1⟩
    have B1 := kide (B0.out.trans (hb1.mono B0.out.size))
    clear hb1
    go_wp2_with fail
    exact bodyPost_ret (v := .tuple #[Value.slice none 0 0, .bool false]) (by simp [results, Tryd.results11, go_sem]) rfl ⟨_, rfl, ⟨rfl, .inl ⟨rfl, rfl⟩⟩, B1.out⟩
  | true =>
    obtain ⟨g1, g2, g3, g4⟩ := cnfR_parts hq
    rw [List.length_map, hnc] at g3
    obtain ⟨S, rfl⟩ : ∃ S' : Nat, S = (S' : Int) := ⟨S.toNat, by omega⟩
    have hS4 : S ≤ 400 := by omega
    have HSO := kide (fun u (hu : Below w.heap.size w u) => setOk_any hS4 (.slice ca nc cc) sa sc ns set u (HS.out.later hu) HNS.out)
    have HCS := kide g4
    rw [hq] at HCN hR
    clear hq g4 g1 g2
    cases hq : setR (S : Int) set with
    | false =>
      rw [if_neg (by rw [hq]; simp)] at hR
      rw [hq] at HSO
      subst hR
      clear hq
      go_enter Tryd.func11, Tryd.ntmps11
      go_wp2_with fail
      generalize w.alloc (Obj.cells #[Value.int .i64 (S : Int), Value.slice ca nc cc] 29) = w0 at *
      have d0 : w0.cell? ⟨w.heap.size, 0, none⟩ = some (Value.int .i64 (S : Int)) := X0.out.cell 0
      have d1 : w0.cell? ⟨w.heap.size, 1, none⟩ = some (Value.slice ca nc cc) := X0.out.cell 1
      refine Calls.mono (HCN.out _ B0.out) ?_
      rintro e w1 ⟨rfl, hb1⟩
      have X1 := kide (X0.out.later hb1)
      have B1 := kide (B0.out.trans (hb1.mono B0.out.size))
      have e0 : w1.cell? ⟨w.heap.size, 0, none⟩ = some (Value.int .i64 (S : Int)) := X1.out.cell 0
      have e1 : w1.cell? ⟨w.heap.size, 1, none⟩ = some (Value.slice ca nc cc) := X1.out.cell 1
      clear hb1 d0 d1
      go_wp2_with fail
      refine Calls.mono (HSO.out _ B1.out) ?_
      rintro e w2 ⟨rfl, hb2⟩
      have X2 := kide (X1.out.later hb2)
      have B2 := kide (B1.out.trans (hb2.mono B1.out.size))
      have f0 : w2.cell? ⟨w.heap.size, 0, none⟩ = some (Value.int .i64 (S : Int)) := X2.out.cell 0
      have f1 : w2.cell? ⟨w.heap.size, 1, none⟩ = some (Value.slice ca nc cc) := X2.out.cell 1
      clear hb2 e0 e1
      go_wp2_with fail
      exact bodyPost_ret (v := .tuple #[Value.slice none 0 0, .bool false]) (by simp [results, Tryd.results11, go_sem]) rfl ⟨_, rfl, ⟨rfl, .inl ⟨rfl, rfl⟩⟩, B2.out⟩
    | true =>
      rw [hq, if_pos ⟨rfl, rfl⟩] at hR
      have TK := kide (setR_tk.1 hq)
      rw [hq] at HSO
      have hq0 : Uq S (xs.map Iw.ks) set R := by rw [← hR]; exact Uq.start S _ _
      have HUQ := kide hq0
      clear hq hR hq0
      go_enter Tryd.func11, Tryd.ntmps11
      go_wp2_with fail
      generalize w.alloc (Obj.cells #[Value.int .i64 (S : Int), Value.slice ca nc cc] 29) = w0 at *
      have d0 : w0.cell? ⟨w.heap.size, 0, none⟩ = some (Value.int .i64 (S : Int)) := X0.out.cell 0
      have d1 : w0.cell? ⟨w.heap.size, 1, none⟩ = some (Value.slice ca nc cc) := X0.out.cell 1
      refine Calls.mono (HCN.out _ B0.out) ?_
      rintro e w1 ⟨rfl, hb1⟩
      have X1 := kide (X0.out.later hb1)
      have B1 := kide (B0.out.trans (hb1.mono B0.out.size))
      have e0 : w1.cell? ⟨w.heap.size, 0, none⟩ = some (Value.int .i64 (S : Int)) := X1.out.cell 0
      have e1 : w1.cell? ⟨w.heap.size, 1, none⟩ = some (Value.slice ca nc cc) := X1.out.cell 1
      clear hb1 d0 d1
      go_wp2_with fail
      refine Calls.mono (HSO.out _ B1.out) ?_
      rintro e w2 ⟨rfl, hb2⟩
      have X2 := kide (X1.out.later hb2)
      have B2 := kide (B1.out.trans (hb2.mono B1.out.size))
      have f0 : w2.cell? ⟨w.heap.size, 0, none⟩ = some (Value.int .i64 (S : Int)) := X2.out.cell 0
      have f1 : w2.cell? ⟨w.heap.size, 1, none⟩ = some (Value.slice ca nc cc) := X2.out.cell 1
      clear hb2 e0 e1
      go_wp2_with fail
      refine Calls.mono (HNW.out w2 S ca nc cc xs (HC.out.later B2.out) hnc g3 hS4 HCAP.out HCS.out) ?_
      rintro e w3 ⟨M, tv, eyl, rows, ws, -, rfl, hm3, hi3, hl3, hb3⟩
      have W3 := kide hm3
      have WI3 := kide hi3
      have WL3 := kide hl3
      have B3 := kide hb3
      have TB2 : Hid (TabAt 0 Lib.deBruijn64tab w2) := fun j hj => (B2.out.cell (p := ⟨0, j, none⟩) h0).trans (HT.out j hj)
      have H02 : Hid (0 < w2.heap.size) := Nat.lt_of_lt_of_le h0 B2.out.size
      have HC2 := kide (HC.out.later B2.out)
      have HS2 := kide (HS.out.later B2.out)
      clear hm3 hi3 hl3 hb3 f0 f1 X2 X1 X0 HCN HSO HT
      go_wp2_with fail
      go_loopw [23] (fun i wr => ∃ (t : Nat) (tv : Value) (eyl : List (Nat × Nat)) (rows : List (Value × List Nat)) (ws : List Nat), t ≤ ns ∧ i = .int .i64 (t : Int) ∧ Wm wr w2.heap.size M S (2 * S + 1) ca nc cc tv eyl rows (set.take t) ws ∧ Wi (xs.map Iw.ks) (set.take t) (eyF eyl) (wtF S rows) (plB ws) ∧ ws.length = (nc + 63) / 64 ∧ Below w2.heap.size w2 wr) (fun i _ => ns - (intOf i).toNat)
      case atStart => exact ⟨0, tv, eyl, rows, ws, Nat.zero_le _, rfl, W3.out, WI3.out, WL3.out, B3.out⟩
      case round =>
        obtain ⟨t, tv4, eyl4, rows4, ws4, ht, rfl, hm4, hi4, hl4, hb4⟩ := hrel
        have W4 := kide hm4
        have WI4 := kide hi4
        have WL4 := kide hl4
        have B4 := kide hb4
        clear W3 WI3 WL3 B3 hm4 hi4 hl4 hb4
        by_cases hlt : t < ns
        · obtain ⟨x, hx⟩ : ∃ x, set[t]? = some x := ⟨_, List.getElem?_eq_getElem (show t < set.length by rw [HNS.out]; exact hlt)⟩
          obtain ⟨-, -, h9 | ⟨b3, o3, hsa, hc3⟩⟩ := HS2.out
          · subst h9; simp at hx
          have d5 := hc3 t (List.getElem?_eq_some_iff.1 hx).1
          rw [show set.getD t 0 = x by rw [List.getD_eq_getElem?_getD, hx]; rfl] at d5
          rw [← kcell B4.out _ _ (block_lt_of_cell d5)] at d5
          subst hsa
          have j0 : (t : Int) < (ns : Int) := by omega
          have hTl := TK.out.len
          have HPUT := kide (put_any (ex := fun _ => false) xs W4.out (by rw [plX_none]; exact WI4.out) HC2.out hnc g3 B4.out hS4 (fun c hc => ⟨(HCS.out c hc).1, (HCS.out c hc).2.1, fun z hz => ((HCS.out c hc).2.2 z hz).2⟩) (fun p hp => by rw [WL4.out]; omega) (by rw [List.length_take]; omega) x (TK.out.num x (List.mem_of_getElem? hx)).2)
          rw [take_snoc hx] at HPUT
          clear hc3 hx hTl
          go_wp2_with fail
          refine Calls.mono HPUT.out ?_
          rintro e w5 ⟨rfl, tv5, eyl5, rows5, ws5, hm5, hi5, hl5, hb5⟩
          rw [plX_none] at hi5
          have W5 := kide hm5
          have WI5 := kide hi5
          have WL5 := kide (hl5.trans WL4.out)
          have B5 := kide (B4.out.trans hb5)
          clear hm5 hi5 hl5 hb5 d5 HPUT
          go_wp2_with fail
          go_roundw
          case rel => exact ⟨t + 1, tv5, eyl5, rows5, ws5, by omega, by go_num, W5.out, WI5.out, WL5.out, B5.out⟩
          case measure => simp only [intOf]; omega
        · obtain rfl : t = ns := by omega
          have et : set.take t = set := List.take_of_length_le (by rw [HNS.out]; exact Nat.le_refl _)
          rw [et] at W4 WI4
          have HFO := kide (follow_any R xs W4.out WI4.out TK.out HUQ.out HC2.out hnc g3 B4.out hS4 HCS.out (fun p hp => by rw [WL4.out]; omega) (by rw [WL4.out]; omega) TB2.out H02.out)
          clear et
          go_wp2_with fail
          refine Calls.mono HFO.out ?_
          rintro e w5 ⟨rfl, tv5, eyl5, rows5, ws5, du5, hm5, -, -, -, -, hb5⟩
          have d5 : w5.cell? ⟨M.bx, 5, none⟩ = some tv5 := hm5.bx.cell 5
          have TR := kide (hm5.tr.lowI B2.out.size)
          have BE := kide ((B2.out.trans (B4.out.mono B2.out.size)).trans (hb5.mono B2.out.size))
          clear hm5 hb5 HFO
          go_wp2_with fail
          exact bodyPost_ret (v := .tuple #[tv5, .bool R.2]) (by simp [results, Tryd.results11, go_sem]) rfl ⟨_, rfl, TR.out, BE.out⟩
end Go.Proofs.YtmfamdonbgmjbaaDoor
