/- A bar is put behind others, on the given side. -/
import Derived.Test.YthoiajpbpoglfaaZKAG
namespace Go.Proofs.Ythoiajpbpoglfaa
set_option linter.unusedVariables false
set_option linter.unusedSimpArgs false
open Go.RowKit Go.WideMaps Go.Maps Go.MapKept Go.ChangeMaps

def Yg.val (x : Yg) : Value := .agg #[.int .i64 x.ct.v, .int .i64 x.ct.lo, .int .i64 x.ct.bw, .slice x.a x.ct.ws.length x.c]

set_option maxHeartbeats 1000000 in
set_option maxRecDepth 100000 in
theorem l9Same_any (x y : Yg) (w : World) (hx : Rd w x.a x.ct.ws) (hy : Rd w y.a y.ct.ws) :
    Calls Try.prog 82 #[x.val, y.val] w fun e w' => e = .returned (.bool (eqY x.ct y.ct)) ∧ Below w.heap.size w w' := by
  obtain ⟨⟨xv, xlo, xbw, xws⟩, xa, xc⟩ := x
  obtain ⟨⟨yv, ylo, ybw, yws⟩, ya, yc⟩ := y
  simp only [Yg.val] at *
  have h2 : Below w.heap.size w ((w.alloc (Obj.cells #[Value.int .i64 xv, Value.int .i64 xlo, Value.int .i64 xbw, Value.slice xa xws.length xc] 86)).alloc (Obj.cells #[Value.int .i64 yv, Value.int .i64 ylo, Value.int .i64 ybw, Value.slice ya yws.length yc] 86)) := ((Below.refl _ _).alloc (Nat.le_refl _) _).alloc (by simp) _
  have HS := kide (l3Same_any xbw xa xc xws ybw ya yc yws _ (hx.later h2) (hy.later h2))
  have B2 := kide h2
  clear h2 hx hy
  generalize xws.length = xn at *
  generalize yws.length = yn at *
  by_cases e1 : xv = yv
  · by_cases e2 : xlo = ylo
    · have hR : eqY ⟨xv, xlo, xbw, xws⟩ ⟨yv, ylo, ybw, yws⟩ = (decide (xbw = ybw) && decide (xws = yws)) := by
        rw [Bool.eq_iff_iff, eqY_iff]; simp [e1, e2]
      rw [hR]
      subst e1
      subst e2
      clear hR
      have q1 : (xv == xv) = true := by simp
      have q2 : (xlo == xlo) = true := by simp
      generalize (decide (xbw = ybw) && decide (xws = yws)) = R at *
      go_enter Try.func82, Try.ntmps82
      go_wp2_with fail
      refine Calls.mono HS.out ?_
      rintro e w3 ⟨rfl, hb3⟩
      have B3 := kide (B2.out.trans (hb3.mono B2.out.size))
      clear hb3
      go_wp2_with fail
      go_ret
      exact ⟨rfl, B3.out⟩
    · have hR : eqY ⟨xv, xlo, xbw, xws⟩ ⟨yv, ylo, ybw, yws⟩ = false := by rw [eqY_no]; simp [e2]
      rw [hR]
      have q1 : (xv == yv) = true := by simp [e1]
      have q2 : (xlo == ylo) = false := by simp [e2]
      clear hR e1 e2
      go_enter Try.func82, Try.ntmps82
      go_wp2_with fail
      go_ret
      exact ⟨rfl, B2.out⟩
  · have hR : eqY ⟨xv, xlo, xbw, xws⟩ ⟨yv, ylo, ybw, yws⟩ = false := by rw [eqY_no]; simp [e1]
    rw [hR]
    have q1 : (xv == yv) = false := by simp [e1]
    clear hR e1
    go_enter Try.func82, Try.ntmps82
    go_wp2_with fail
    go_ret
    exact ⟨rfl, B2.out⟩

set_option maxHeartbeats 2000000 in
set_option maxRecDepth 100000 in
theorem l8Copy_any (bw : Int) (a : Option Addr) (c n : Nat) (ws : List Nat) (w : World) (hr : Rd w a ws) (hn : ws.length = n) (h0 : 0 < n) :
    Calls Try.prog 83 #[.agg #[.int .i64 bw, .slice a n c]] w fun e w' => ∃ a2 c2, e = .returned (.agg #[.int .i64 bw, .slice a2 n c2]) ∧ Nw w' w.heap.size a2 ws ∧ Below w.heap.size w w' := by
  have hb2 : Below w.heap.size w ((w.alloc (Obj.cells #[Value.int .i64 bw, Value.slice a n c] 48)).alloc (Obj.cells #[Value.int .i64 0, Value.slice none 0 0] 48)) := ((Below.refl _ _).alloc (Nat.le_refl _) _).alloc (by simp) _
  have hr2 := hr.later hb2
  have XP := kide (Bz.later (Bz.new w #[Value.int .i64 bw, Value.slice a n c] 48) ((Below.refl _ _).alloc (Nat.le_refl _) (Obj.cells #[Value.int .i64 0, Value.slice none 0 0] 48)))
  have XR : Hid (Bz ((w.alloc (Obj.cells #[Value.int .i64 bw, Value.slice a n c] 48)).alloc (Obj.cells #[Value.int .i64 0, Value.slice none 0 0] 48)) (w.heap.size + 1) #[Value.int .i64 0, Value.slice none 0 0] 48) := by
    have h9 := Bz.new (w.alloc (Obj.cells #[Value.int .i64 bw, Value.slice a n c] 48)) #[Value.int .i64 0, Value.slice none 0 0] 48
    rw [show (w.alloc (Obj.cells #[Value.int .i64 bw, Value.slice a n c] 48)).heap.size = w.heap.size + 1 by simp] at h9
    exact h9
  have hlW : Hid (w.heap.size + 2 ≤ ((w.alloc (Obj.cells #[Value.int .i64 bw, Value.slice a n c] 48)).alloc (Obj.cells #[Value.int .i64 0, Value.slice none 0 0] 48)).heap.size) := by show _ ≤ _; simp
  obtain ⟨hl, hx2, h | ⟨b, o, rfl, hc⟩⟩ := hr2
  · rw [h] at hn; simp at hn; omega
  have HC := kide hc
  have HN := kide hn
  have BW := kide hb2
  clear hr hc hx2 hb2
  go_enter Try.func83, Try.ntmps83
  go_wp2_with fail
  generalize ((w.alloc (Obj.cells #[Value.int .i64 bw, Value.slice (some ⟨b, o, none⟩) n c] 48)).alloc (Obj.cells #[Value.int .i64 0, Value.slice none 0 0] 48)) = W at *
  obtain ⟨b0, hb0⟩ : ∃ b0, w.heap.size = b0 := ⟨_, rfl⟩
  rw [hb0] at XP XR hlW
  simp only [hb0]
  have HB0 := kide hb0
  clear hb0
  refine wp_region_x (SA := fun _ => False) (SB := fun uu => uu.cell? ⟨b0, 0, none⟩ = some (Value.int .i64 bw) ∧ uu.cell? ⟨b0, 1, none⟩ = some (Value.slice (some ⟨b, o, none⟩) n c)) (k := 999) (by kernel_rfl) ?_
  have hbd : Below W.heap.size W W.drew := (Below.refl _ _).drew
  have XP0 := kide (XP.out.later hbd)
  have XR0 := kide (XR.out.later hbd)
  have hu0 := kide hbd
  clear hbd
  generalize W.drew = u0 at *
  have c0_0 : u0.cell? ⟨b0, 0, none⟩ = some (Value.int .i64 bw) := XP0.out.cell 0
  have c1_0 : u0.cell? ⟨b0, 1, none⟩ = some (Value.slice (some ⟨b, o, none⟩) n c) := XP0.out.cell 1
  have hs0 : Hid ((fun uu => uu.cell? ⟨b0, 0, none⟩ = some (Value.int .i64 bw) ∧ uu.cell? ⟨b0, 1, none⟩ = some (Value.slice (some ⟨b, o, none⟩) n c)) u0) := ⟨c0_0, c1_0⟩
  try go_simp
  refine wpAnyX_both (T := (fun _ => True)) (i := 0) (v := Value.pointer (some ⟨b0, 0, none⟩)) rfl (by kernel_rfl) (by kernel_rfl) (by kernel_rfl) (fun _ _ _ h => by first | exact h | exact h.elim) (by decide) (fun _ _ => trivial) (fun _ _ => trivial) (Sx.behind (by kernel_rfl) hs0.out) (Or.inl ⟨by rfl, fun uu hu => by go_simp⟩) ?_
  try go_simp
  refine wpAnyX_both (T := (fun uu => uu.cell? ⟨b0, 0, none⟩ = some (Value.int .i64 bw) ∧ uu.cell? ⟨b0, 1, none⟩ = some (Value.slice (some ⟨b, o, none⟩) n c))) (i := 1) (v := Value.int .i64 bw) rfl (by kernel_rfl) (by kernel_rfl) (by kernel_rfl) (fun _ _ _ h => by first | exact h | exact h.elim) (by decide) (fun _ h => h.elim) (fun _ h => h) (Sx.behind (by kernel_rfl) hs0.out) (Or.inl ⟨by rfl, fun uu hu => by obtain ⟨e0, e1⟩ := hu; go_simp⟩) ?_
  try go_simp
  refine wpAnyX_both (T := (fun _ => True)) (i := 3) (v := Value.pointer (some ⟨b0, 1, none⟩)) rfl (by kernel_rfl) (by kernel_rfl) (by kernel_rfl) (fun _ _ _ h => by first | exact h | exact h.elim) (by decide) (fun _ _ => trivial) (fun _ _ => trivial) (Sx.behind (by kernel_rfl) hs0.out) (Or.inl ⟨by rfl, fun uu hu => by go_simp⟩) ?_
  try go_simp
  refine wpAnyX_both (T := (fun uu => uu.cell? ⟨b0, 0, none⟩ = some (Value.int .i64 bw) ∧ uu.cell? ⟨b0, 1, none⟩ = some (Value.slice (some ⟨b, o, none⟩) n c))) (i := 4) (v := Value.slice (some ⟨b, o, none⟩) n c) rfl (by kernel_rfl) (by kernel_rfl) (by kernel_rfl) (fun _ _ _ h => by first | exact h | exact h.elim) (by decide) (fun _ h => h.elim) (fun _ h => h) (Sx.behind (by kernel_rfl) hs0.out) (Or.inl ⟨by rfl, fun uu hu => by obtain ⟨e0, e1⟩ := hu; go_simp⟩) ?_
  try go_simp
  refine wpAnyX_ready (rs := [2]) (by kernel_rfl) (by simp) (AllX.cons rfl (fun K hK => ?_) AllX.nil)
  go_simp
  have hbx : Below u0.heap.size u0 (u0.alloc (Obj.cells #[] 88)) := (Below.refl _ _).alloc (Nat.le_refl _) _
  have OE1 : Hid (OwW (u0.alloc (Obj.cells #[] 88)) W.heap.size (.slice (some ⟨u0.heap.size, 0, none⟩) 0 0) []) := OwW.empty _ _ _ rfl hu0.out.size
  have XP1 := kide (XP0.out.later hbx)
  have XR1 := kide (XR0.out.later hbx)
  have hu1 : Hid (Below W.heap.size W (u0.alloc (Obj.cells #[] 88))) := hu0.out.alloc hu0.out.size _
  obtain ⟨ge, hge⟩ : ∃ x, u0.heap.size = x := ⟨_, rfl⟩
  rw [hge] at OE1
  simp only [hge]
  clear hge hbx
  generalize u0.alloc (Obj.cells #[] 88) = u1 at *
  have c0_1 : u1.cell? ⟨b0, 0, none⟩ = some (Value.int .i64 bw) := XP1.out.cell 0
  have c1_1 : u1.cell? ⟨b0, 1, none⟩ = some (Value.slice (some ⟨b, o, none⟩) n c) := XP1.out.cell 1
  have hs1 : Hid ((fun uu => uu.cell? ⟨b0, 0, none⟩ = some (Value.int .i64 bw) ∧ uu.cell? ⟨b0, 1, none⟩ = some (Value.slice (some ⟨b, o, none⟩) n c)) u1) := ⟨c0_1, c1_1⟩
  refine hK _ _ (Sx.behind (by kernel_rfl) hs1.out) ?_
  clear hK K
  try go_simp
  refine wpAnyX_ready (rs := [5]) (by kernel_rfl) (by simp) (AllX.cons rfl (fun K hK => ?_) AllX.nil)
  refine step_appWs _ rfl _ _ rfl W.heap.size (.slice (some ⟨ge, 0, none⟩) 0 0) [] ws (by first | rfl | simp [Act.eval]) OE1.out b o c (by rw [HN.out]; first | rfl | simp [Act.eval]) (fun i hi => (hu1.out.cell (p := ⟨b, o + i, none⟩) (block_lt_of_cell (HC.out i hi))).trans (HC.out i hi)) (by simp; omega) hu1.out.size ?_
  intro v5 u2 how hgr
  obtain ⟨a5, c5, rfl, hn5⟩ := how.shape
  have hbg : Below W.heap.size u1 u2 := Below.grown (Below.refl _ _) hgr hu1.out.size (fun j hj => (own_geK OE1.out hj))
  have NN2 := kide hn5
  have XP2 : Hid (Bz u2 b0 #[Value.int .i64 bw, Value.slice (some ⟨b, o, none⟩) n c] 48) := (hbg.block b0 (by have := hlW.out; omega)).trans XP1.out
  have XR2 : Hid (Bz u2 (b0 + 1) #[Value.int .i64 0, Value.slice none 0 0] 48) := (hbg.block (b0 + 1) (by have := hlW.out; omega)).trans XR1.out
  have hu2 := kide (hu1.out.trans hbg)
  rw [List.nil_append, HN.out]
  rw [List.nil_append] at NN2
  clear how hgr hbg hn5
  have c0_2 : u2.cell? ⟨b0, 0, none⟩ = some (Value.int .i64 bw) := XP2.out.cell 0
  have c1_2 : u2.cell? ⟨b0, 1, none⟩ = some (Value.slice (some ⟨b, o, none⟩) n c) := XP2.out.cell 1
  have hs2 : Hid ((fun uu => uu.cell? ⟨b0, 0, none⟩ = some (Value.int .i64 bw) ∧ uu.cell? ⟨b0, 1, none⟩ = some (Value.slice (some ⟨b, o, none⟩) n c)) u2) := ⟨c0_2, c1_2⟩
  refine hK _ _ (Sx.behind (by kernel_rfl) hs2.out) ?_
  clear hK K
  try go_simp
  refine wpAnyX_both (T := (fun _ => True)) (i := 6) (v := Value.agg #[Value.int .i64 bw, Value.slice a5 n c5]) rfl (by kernel_rfl) (by kernel_rfl) (by kernel_rfl) (fun _ _ _ h => by first | exact h | exact h.elim) (by decide) (fun _ _ => trivial) (fun _ _ => trivial) (Sx.behind (by kernel_rfl) hs2.out) (Or.inl ⟨by rfl, fun uu hu => by go_simp⟩) ?_
  try go_simp
  refine wpAnyX_ready (rs := [7]) (by kernel_rfl) (by simp) (AllX.cons rfl (fun K hK => ?_) AllX.nil)
  have e0 : u2.cell? ⟨b0 + 1, 0, none⟩ = some (Value.int .i64 0) := XR2.out.cell 0
  have e1 : u2.cell? ⟨b0 + 1, 1, none⟩ = some (Value.slice none 0 0) := XR2.out.cell 1
  have f0 := XR2.out.froz 0
  have f1 := XR2.out.froz 1
  go_simp
  have XR3 : Hid (Bz ((u2.setCell ⟨b0 + 1, 0, none⟩ (Value.int .i64 bw)).setCell ⟨b0 + 1, 1, none⟩ (Value.slice a5 n c5)) (b0 + 1) #[Value.int .i64 bw, Value.slice a5 n c5] 48) := (XR2.out.set 0 _).set 1 _
  have XP3 : Hid (Bz ((u2.setCell ⟨b0 + 1, 0, none⟩ (Value.int .i64 bw)).setCell ⟨b0 + 1, 1, none⟩ (Value.slice a5 n c5)) b0 #[Value.int .i64 bw, Value.slice (some ⟨b, o, none⟩) n c] 48) := (XP2.out.other (by omega) 0 _).other (by omega) 1 _
  have NN3 : Hid (Nw ((u2.setCell ⟨b0 + 1, 0, none⟩ (Value.int .i64 bw)).setCell ⟨b0 + 1, 1, none⟩ (Value.slice a5 n c5)) W.heap.size a5 ws) := nw_set (nw_set NN2.out XR2.out (by decide) 0 _) (XR2.out.set 0 (Value.int .i64 bw)) (by decide) 1 _
  have BB3 : Hid (Below w.heap.size w ((u2.setCell ⟨b0 + 1, 0, none⟩ (Value.int .i64 bw)).setCell ⟨b0 + 1, 1, none⟩ (Value.slice a5 n c5))) := ((BW.out.trans (hu2.out.mono BW.out.size)).setCell (by rw [HB0.out]; exact Nat.le_succ _) _).setCell (by rw [HB0.out]; exact Nat.le_succ _) _
  clear e0 e1 f0 f1
  generalize (u2.setCell ⟨b0 + 1, 0, none⟩ (Value.int .i64 bw)).setCell ⟨b0 + 1, 1, none⟩ (Value.slice a5 n c5) = u3 at *
  have c0_3 : u3.cell? ⟨b0, 0, none⟩ = some (Value.int .i64 bw) := XP3.out.cell 0
  have c1_3 : u3.cell? ⟨b0, 1, none⟩ = some (Value.slice (some ⟨b, o, none⟩) n c) := XP3.out.cell 1
  have hs3 : Hid ((fun uu => uu.cell? ⟨b0, 0, none⟩ = some (Value.int .i64 bw) ∧ uu.cell? ⟨b0, 1, none⟩ = some (Value.slice (some ⟨b, o, none⟩) n c)) u3) := ⟨c0_3, c1_3⟩
  refine hK _ _ (Sx.behind (by kernel_rfl) hs3.out) ?_
  clear hK K
  try go_simp
  refine wpAnyX_done (by kernel_rfl) ?_ _
  go_wp2_with fail
  have y0 : u3.cell? ⟨b0 + 1, 0, none⟩ = some (Value.int .i64 bw) := XR3.out.cell 0
  have y1 : u3.cell? ⟨b0 + 1, 1, none⟩ = some (Value.slice a5 n c5) := XR3.out.cell 1
  exact bodyPost_ret (v := Value.agg #[Value.int .i64 bw, Value.slice a5 n c5]) (by simp [results, Try.results83, go_sem, y0, y1]) rfl ⟨a5, ⟨c5, rfl⟩, Nw.mono NN3.out (by have := hlW.out; have := HB0.out; omega), BB3.out⟩

theorem nw_ksb {w w' : World} {lo : Nat} {a : Option Addr} {xs : List Nat} (h : Nw w lo a xs) (hk : Ksb w w') : Nw w' lo a xs := Nw.kept h fun k cur hc => hk.stay k _ _ _ hc (by decide) (by decide)

/-- What is told: a row of bars in new memory. -/
def RetPut (w : World) (B : Nat) (r : List Yc) (e : Ending) (w' : World) : Prop := ∃ v' l', e = .returned v' ∧ OB4 w' B v' l' ∧ l'.map Yg.ct = r ∧ (∀ x ∈ l', Nw w' B x.a x.ct.ws ∧ okY x.ct) ∧ Below B w w' ∧ Ksb w w'

def putY (l : List Yc) (s : Yc) : List Yc :=
  haveI : DecidableEq Yc := ycDec
  if s ∈ l then l else l ++ [s]

set_option maxHeartbeats 2000000 in
set_option maxRecDepth 100000 in
theorem l9Put_any (B : Nat) (v : Value) (l : List Yg) (y : Yg) (w : World) (ho : OB4 w B v l) (hw : ∀ x ∈ l, Nw w B x.a x.ct.ws ∧ okY x.ct) (hr : Rd w y.a y.ct.ws) (hy : okY y.ct) (h0 : 0 < y.ct.ws.length) (hl : l.length ≤ 1048576) (hB : B ≤ w.heap.size) :
    Calls Try.prog 58 #[v, y.val] w (RetPut w B (putY (l.map Yg.ct) y.ct)) := by
  obtain ⟨av, cv, rfl⟩ := ho.form
  have hn : l.length = l.length := rfl
  obtain ⟨n, hn⟩ : ∃ n, l.length = n := ⟨_, rfl⟩
  rw [hn] at ho ⊢
  rw [hn] at hl
  have HO := kide ho
  have HW := kide hw
  have HN := kide hn
  have HR := kide hr
  have HY := kide hy
  have hbx : Below w.heap.size w (w.alloc (Obj.cells #[Value.int .i64 y.ct.v, Value.int .i64 y.ct.lo, Value.int .i64 y.ct.bw, Value.slice y.a y.ct.ws.length y.c] 86)) := (Below.refl _ _).alloc (Nat.le_refl _) _
  have X0 := kide (Bz.new w #[Value.int .i64 y.ct.v, Value.int .i64 y.ct.lo, Value.int .i64 y.ct.bw, Value.slice y.a y.ct.ws.length y.c] 86)
  have BW := kide hbx
  clear ho hw hr hy hn hbx
  obtain ⟨z, hz⟩ : ∃ z : Yg, z = y := ⟨y, rfl⟩
  have HZ := kide hz
  rw [← hz] at HR HY
  clear hz
  obtain ⟨⟨yv, ylo, ybw, yws⟩, ya, yc⟩ := y
  simp only [Yg.val] at *
  go_enter Try.func58, Try.ntmps58
  go_wp2_with fail
  generalize w.alloc (Obj.cells #[Value.int .i64 yv, Value.int .i64 ylo, Value.int .i64 ybw, Value.slice ya yws.length yc] 86) = W at *
  obtain ⟨b0, hb0⟩ : ∃ b0, w.heap.size = b0 := ⟨_, rfl⟩
  rw [hb0] at X0
  simp only [hb0]
  have HB0 := kide hb0
  clear hb0
  obtain ⟨yn, hyn⟩ : ∃ yn, yws.length = yn := ⟨_, rfl⟩
  rw [hyn] at X0 h0
  simp only [hyn]
  have HYN := kide hyn
  clear hyn
  go_loopw [5] (fun q wr => ∃ k : Nat, k ≤ n ∧ q = .int .i64 (k : Int) ∧ (∀ i x, i < k → l[i]? = some x → x.ct ≠ z.ct) ∧ Below W.heap.size W wr) (fun q _ => n - (intOf q).toNat)
  case atStart => exact ⟨0, Nat.zero_le _, rfl, fun i x h => by omega, Below.refl _ _⟩
  case round =>
    obtain ⟨k, hk, rfl, hne, hb⟩ := hrel
    have HNE := kide hne
    have HB := kide hb
    have HBW := kide (BW.out.trans (hb.mono BW.out.size))
    have XB := kide (X0.out.later hb)
    clear hne hb
    by_cases hlt : k < n
    · have i0 : (k : Int) < (n : Int) := by omega
      obtain ⟨x, gx⟩ : ∃ x, l[k]? = some x := ⟨l[k]'(by rw [HN.out]; exact hlt), List.getElem?_eq_getElem _⟩
      obtain ⟨g4, c4, e4, p0, p1, p2, p3⟩ := (HO.out.later HBW.out).at gx
      obtain ⟨hwx, hox⟩ := HW.out x (List.mem_of_getElem? gx)
      have HRX := kide ((hwx.later HBW.out).rd hox.2.2.2.2 hox.2.2.2.1)
      have HRZ := kide (HR.out.later HBW.out)
      rw [HN.out] at e4
      cases e4
      have HSM := kide (fun u (hu : Below wr.heap.size wr u) => l9Same_any x z u (HRX.out.later hu) (HRZ.out.later hu))
      have GX := kide gx
      have lg4 := block_lt_of_cell p0
      have lb0 := XB.out.lt
      have d0 : wr.cell? ⟨b0, 0, none⟩ = some (Value.int .i64 yv) := XB.out.cell 0
      have d1 : wr.cell? ⟨b0, 1, none⟩ = some (Value.int .i64 ylo) := XB.out.cell 1
      have d2 : wr.cell? ⟨b0, 2, none⟩ = some (Value.int .i64 ybw) := XB.out.cell 2
      have d3 : wr.cell? ⟨b0, 3, none⟩ = some (Value.slice ya yn yc) := XB.out.cell 3
      rw [HZ.out] at HSM
      obtain ⟨xx, hxx⟩ : ∃ xx : Yg, xx = x := ⟨x, rfl⟩
      have HXX := kide (hxx)
      obtain ⟨⟨xv, xlo, xbw, xws⟩, xa, xc⟩ := x
      simp only [Yg.val] at p0 p1 p2 p3 HSM
      rw [HYN.out] at HSM
      generalize xws.length = xn at *
      generalize hV : eqY ⟨xv, xlo, xbw, xws⟩ ⟨yv, ylo, ybw, yws⟩ = V at *
      have HV := kide hV
      clear hV hxx gx hwx hox HRX HRZ
      go_wp2_with fail
      refine wp_region_x (SA := fun _ => False) (SB := fun uu => Below wr.heap.size wr uu) (k := 999) (by kernel_rfl) ?_
      have hm0 : Hid (Below wr.heap.size wr wr.drew) := (Below.refl _ _).drew
      generalize wr.drew = m0 at *
      try go_simp
      refine wpAnyX_both (T := fun uu => Below wr.heap.size wr uu) (i := 0) (v := Value.slice (some ⟨g4, 0, none⟩) n cv) rfl (by kernel_rfl) (by kernel_rfl) (by kernel_rfl) (fun _ _ _ h => by first | exact h | exact h.elim) (by decide) (fun _ h => h.elim) (fun _ h => h) (Sx.behind (by kernel_rfl) hm0.out) (Or.inl ⟨by rfl, fun uu hu => by go_simp⟩) ?_
      try go_simp
      refine wpAnyX_both (T := fun uu => Below wr.heap.size wr uu) (i := 1) (v := Value.int .i64 (k : Int)) rfl (by kernel_rfl) (by kernel_rfl) (by kernel_rfl) (fun _ _ _ h => by first | exact h | exact h.elim) (by decide) (fun _ h => h.elim) (fun _ h => h) (Sx.behind (by kernel_rfl) hm0.out) (Or.inl ⟨by rfl, fun uu hu => by go_simp⟩) ?_
      try go_simp
      refine wpAnyX_both (T := fun uu => Below wr.heap.size wr uu) (i := 2) (v := Value.pointer (some ⟨g4, k * 4, none⟩)) rfl (by kernel_rfl) (by kernel_rfl) (by kernel_rfl) (fun _ _ _ h => by first | exact h | exact h.elim) (by decide) (fun _ h => h.elim) (fun _ h => h) (Sx.behind (by kernel_rfl) hm0.out) (Or.inl ⟨by rfl, fun uu hu => by go_simp⟩) ?_
      try go_simp
      refine wpAnyX_both (T := fun uu => Below wr.heap.size wr uu) (i := 3) (v := Value.agg #[Value.int .i64 xv, Value.int .i64 xlo, Value.int .i64 xbw, Value.slice xa xn xc]) rfl (by kernel_rfl) (by kernel_rfl) (by kernel_rfl) (fun _ _ _ h => by first | exact h | exact h.elim) (by decide) (fun _ h => h.elim) (fun _ h => h) (Sx.behind (by kernel_rfl) hm0.out) (Or.inl ⟨by rfl, fun uu hu => by have e0 := (kcell hu g4 (k * 4) lg4).trans p0; have e1 := (kcell hu g4 (k * 4 + 1) lg4).trans p1; have e2 := (kcell hu g4 (k * 4 + 2) lg4).trans p2; have e3 := (kcell hu g4 (k * 4 + 3) lg4).trans p3; go_simp⟩) ?_
      try go_simp
      refine wpAnyX_both (T := fun uu => Below wr.heap.size wr uu) (i := 4) (v := Value.agg #[Value.int .i64 yv, Value.int .i64 ylo, Value.int .i64 ybw, Value.slice ya yn yc]) rfl (by kernel_rfl) (by kernel_rfl) (by kernel_rfl) (fun _ _ _ h => by first | exact h | exact h.elim) (by decide) (fun _ h => h.elim) (fun _ h => h) (Sx.behind (by kernel_rfl) hm0.out) (Or.inl ⟨by rfl, fun uu hu => by have e0 := (kcell hu b0 0 lb0).trans d0; have e1 := (kcell hu b0 1 lb0).trans d1; have e2 := (kcell hu b0 2 lb0).trans d2; have e3 := (kcell hu b0 3 lb0).trans d3; go_simp⟩) ?_
      try go_simp
      refine wpAnyX_ready (rs := [5]) (by kernel_rfl) (by simp) (AllX.cons rfl (fun K hK => ?_) AllX.nil)
      go_simp
      refine Calls.mono (HSM.out _ hm0.out) ?_
      rintro e m1 ⟨rfl, hb⟩
      have hm1 : Hid (Below wr.heap.size wr m1) := hm0.out.trans (hb.mono hm0.out.size)
      refine hK _ _ (Sx.behind (by kernel_rfl) hm1.out) ?_
      clear hK K hb
      try go_simp
      refine wpAnyX_done (by kernel_rfl) ?_ _
      skip
      cases V with
      | true =>
        have HPT : Hid (putY (l.map Yg.ct) ⟨yv, ylo, ybw, yws⟩ = l.map Yg.ct) := by
          show _ = _
          rw [putY, if_pos]
          have h9 := eqY_iff.1 HV.out
          rw [← h9]
          exact List.mem_map.2 ⟨_, List.mem_of_getElem? GX.out, rfl⟩
        go_wp2_with fail
        go_ret
        have hbf := HBW.out.trans (hm1.out.mono HBW.out.size)
        exact ⟨_, l, rfl, HO.out.later hbf, HPT.out.symm, fun x hx => ⟨(HW.out x hx).1.later hbf, (HW.out x hx).2⟩, hbf.mono hB, Ksb.of hbf⟩
      | false =>
        go_wp2_with fail
        go_roundw
        case rel =>
          refine ⟨k + 1, by omega, by go_num, fun i x hi hx => ?_, HB.out.trans (hm1.out.mono HB.out.size)⟩
          by_cases hij : i = k
          · subst hij
            rw [GX.out] at hx
            cases hx
            rw [HZ.out]
            exact eqY_no.1 HV.out
          · exact HNE.out i x (by omega) hx
        case measure => simp [intOf]; omega
    · have e : n = k := by omega
      subst e
      have HPUT : Hid (∀ (a5 : Option Addr) (c5 : Nat), (l ++ [(⟨⟨yv, ylo, ybw, yws⟩, a5, c5⟩ : Yg)]).map Yg.ct = putY (l.map Yg.ct) ⟨yv, ylo, ybw, yws⟩) := fun a5 c5 => by
        rw [putY, if_neg]
        · simp
        · intro h9
          obtain ⟨x, hx, ex⟩ := List.mem_map.1 h9
          obtain ⟨i, hi, ei⟩ := List.mem_iff_getElem.1 hx
          exact HNE.out i x (by rw [← HN.out]; exact hi) (by rw [List.getElem?_eq_getElem hi, ei]) (by rw [HZ.out]; exact ex)
      go_wp2_with fail
      refine wp_region_x (SA := fun _ => False) (SB := fun uu => uu.cell? ⟨b0, 0, none⟩ = some (Value.int .i64 yv) ∧ uu.cell? ⟨b0, 1, none⟩ = some (Value.int .i64 ylo) ∧ uu.cell? ⟨b0, 2, none⟩ = some (Value.int .i64 ybw) ∧ uu.cell? ⟨b0, 3, none⟩ = some (Value.slice ya yn yc)) (k := 999) (by kernel_rfl) ?_
      have hbd : Below wr.heap.size wr wr.drew := (Below.refl _ _).drew
      have X0 := kide (XB.out.later hbd)
      have hbw := HBW.out.trans (hbd.mono HBW.out.size)
      have BB0 := kide hbw
      have O0 := kide (HO.out.later hbw)
      have W0 := kide (fun x hx => And.intro ((HW.out x hx).1.later hbw) (HW.out x hx).2)
      have RY0 := kide (show Rd wr.drew ya yws by have h9 := HR.out.later hbw; rw [HZ.out] at h9; exact h9)
      clear hbd hbw
      generalize wr.drew = u0 at *
      have c0_0 : u0.cell? ⟨b0, 0, none⟩ = some (Value.int .i64 yv) := X0.out.cell 0
      have c1_0 : u0.cell? ⟨b0, 1, none⟩ = some (Value.int .i64 ylo) := X0.out.cell 1
      have c2_0 : u0.cell? ⟨b0, 2, none⟩ = some (Value.int .i64 ybw) := X0.out.cell 2
      have c3_0 : u0.cell? ⟨b0, 3, none⟩ = some (Value.slice ya yn yc) := X0.out.cell 3
      have hs0 : Hid ((fun uu => uu.cell? ⟨b0, 0, none⟩ = some (Value.int .i64 yv) ∧ uu.cell? ⟨b0, 1, none⟩ = some (Value.int .i64 ylo) ∧ uu.cell? ⟨b0, 2, none⟩ = some (Value.int .i64 ybw) ∧ uu.cell? ⟨b0, 3, none⟩ = some (Value.slice ya yn yc)) u0) := ⟨c0_0, c1_0, c2_0, c3_0⟩
      try go_simp
      refine wpAnyX_both (T := (fun _ => True)) (i := 0) (v := Value.slice av n cv) rfl (by kernel_rfl) (by kernel_rfl) (by kernel_rfl) (fun _ _ _ h => by first | exact h | exact h.elim) (by decide) (fun _ _ => trivial) (fun _ _ => trivial) (Sx.behind (by kernel_rfl) hs0.out) (Or.inl ⟨by rfl, fun uu hu => by go_simp⟩) ?_
      try go_simp
      refine wpAnyX_both (T := (fun _ => True)) (i := 1) (v := Value.pointer (some ⟨b0, 0, none⟩)) rfl (by kernel_rfl) (by kernel_rfl) (by kernel_rfl) (fun _ _ _ h => by first | exact h | exact h.elim) (by decide) (fun _ _ => trivial) (fun _ _ => trivial) (Sx.behind (by kernel_rfl) hs0.out) (Or.inl ⟨by rfl, fun uu hu => by go_simp⟩) ?_
      try go_simp
      refine wpAnyX_both (T := (fun uu => uu.cell? ⟨b0, 0, none⟩ = some (Value.int .i64 yv) ∧ uu.cell? ⟨b0, 1, none⟩ = some (Value.int .i64 ylo) ∧ uu.cell? ⟨b0, 2, none⟩ = some (Value.int .i64 ybw) ∧ uu.cell? ⟨b0, 3, none⟩ = some (Value.slice ya yn yc))) (i := 2) (v := Value.int .i64 yv) rfl (by kernel_rfl) (by kernel_rfl) (by kernel_rfl) (fun _ _ _ h => by first | exact h | exact h.elim) (by decide) (fun _ h => h.elim) (fun _ h => h) (Sx.behind (by kernel_rfl) hs0.out) (Or.inl ⟨by rfl, fun uu hu => by obtain ⟨e0, e1, e2, e3⟩ := hu; go_simp⟩) ?_
      try go_simp
      refine wpAnyX_both (T := (fun _ => True)) (i := 3) (v := Value.pointer (some ⟨b0, 1, none⟩)) rfl (by kernel_rfl) (by kernel_rfl) (by kernel_rfl) (fun _ _ _ h => by first | exact h | exact h.elim) (by decide) (fun _ _ => trivial) (fun _ _ => trivial) (Sx.behind (by kernel_rfl) hs0.out) (Or.inl ⟨by rfl, fun uu hu => by go_simp⟩) ?_
      try go_simp
      refine wpAnyX_both (T := (fun uu => uu.cell? ⟨b0, 0, none⟩ = some (Value.int .i64 yv) ∧ uu.cell? ⟨b0, 1, none⟩ = some (Value.int .i64 ylo) ∧ uu.cell? ⟨b0, 2, none⟩ = some (Value.int .i64 ybw) ∧ uu.cell? ⟨b0, 3, none⟩ = some (Value.slice ya yn yc))) (i := 4) (v := Value.int .i64 ylo) rfl (by kernel_rfl) (by kernel_rfl) (by kernel_rfl) (fun _ _ _ h => by first | exact h | exact h.elim) (by decide) (fun _ h => h.elim) (fun _ h => h) (Sx.behind (by kernel_rfl) hs0.out) (Or.inl ⟨by rfl, fun uu hu => by obtain ⟨e0, e1, e2, e3⟩ := hu; go_simp⟩) ?_
      try go_simp
      refine wpAnyX_both (T := (fun _ => True)) (i := 5) (v := Value.pointer (some ⟨b0, 2, none⟩)) rfl (by kernel_rfl) (by kernel_rfl) (by kernel_rfl) (fun _ _ _ h => by first | exact h | exact h.elim) (by decide) (fun _ _ => trivial) (fun _ _ => trivial) (Sx.behind (by kernel_rfl) hs0.out) (Or.inl ⟨by rfl, fun uu hu => by go_simp⟩) ?_
      try go_simp
      refine wpAnyX_both (T := (fun uu => uu.cell? ⟨b0, 0, none⟩ = some (Value.int .i64 yv) ∧ uu.cell? ⟨b0, 1, none⟩ = some (Value.int .i64 ylo) ∧ uu.cell? ⟨b0, 2, none⟩ = some (Value.int .i64 ybw) ∧ uu.cell? ⟨b0, 3, none⟩ = some (Value.slice ya yn yc))) (i := 6) (v := Value.agg #[Value.int .i64 ybw, Value.slice ya yn yc]) rfl (by kernel_rfl) (by kernel_rfl) (by kernel_rfl) (fun _ _ _ h => by first | exact h | exact h.elim) (by decide) (fun _ h => h.elim) (fun _ h => h) (Sx.behind (by kernel_rfl) hs0.out) (Or.inl ⟨by rfl, fun uu hu => by obtain ⟨e0, e1, e2, e3⟩ := hu; go_simp⟩) ?_
      try go_simp
      refine wpAnyX_ready (rs := [7]) (by kernel_rfl) (by simp) (AllX.cons rfl (fun K hK => ?_) AllX.nil)
      go_simp
      refine Calls.mono (l8Copy_any ybw ya yc yn yws u0 RY0.out HYN.out h0) ?_
      rintro e u1 ⟨a5, c5, rfl, hn5, hb⟩
      have NN1 := kide hn5
      have O1 := kide (O0.out.later hb)
      have X1 := kide (X0.out.later hb)
      have W1 := kide (fun x hx => And.intro ((W0.out x hx).1.later hb) (W0.out x hx).2)
      have BB1 := kide (BB0.out.trans (hb.mono BB0.out.size))
      clear hn5 hb
      have c0_1 : u1.cell? ⟨b0, 0, none⟩ = some (Value.int .i64 yv) := X1.out.cell 0
      have c1_1 : u1.cell? ⟨b0, 1, none⟩ = some (Value.int .i64 ylo) := X1.out.cell 1
      have c2_1 : u1.cell? ⟨b0, 2, none⟩ = some (Value.int .i64 ybw) := X1.out.cell 2
      have c3_1 : u1.cell? ⟨b0, 3, none⟩ = some (Value.slice ya yn yc) := X1.out.cell 3
      have hs1 : Hid ((fun uu => uu.cell? ⟨b0, 0, none⟩ = some (Value.int .i64 yv) ∧ uu.cell? ⟨b0, 1, none⟩ = some (Value.int .i64 ylo) ∧ uu.cell? ⟨b0, 2, none⟩ = some (Value.int .i64 ybw) ∧ uu.cell? ⟨b0, 3, none⟩ = some (Value.slice ya yn yc)) u1) := ⟨c0_1, c1_1, c2_1, c3_1⟩
      refine hK _ _ (Sx.behind (by kernel_rfl) hs1.out) ?_
      clear hK K
      try go_simp
      refine wpAnyX_both (T := (fun _ => True)) (i := 8) (v := Value.agg #[Value.int .i64 yv, Value.int .i64 ylo, Value.int .i64 ybw, Value.slice a5 yn c5]) rfl (by kernel_rfl) (by kernel_rfl) (by kernel_rfl) (fun _ _ _ h => by first | exact h | exact h.elim) (by decide) (fun _ _ => trivial) (fun _ _ => trivial) (Sx.behind (by kernel_rfl) hs1.out) (Or.inl ⟨by rfl, fun uu hu => by go_simp⟩) ?_
      try go_simp
      refine wpAnyX_ready (rs := [9]) (by kernel_rfl) (by simp) (AllX.cons rfl (fun K hK => ?_) AllX.nil)
      go_simp
      have hbx : Below u1.heap.size u1 (u1.alloc (Obj.cells #[Value.int .i64 yv, Value.int .i64 ylo, Value.int .i64 ybw, Value.slice a5 yn c5] 86)) := (Below.refl _ _).alloc (Nat.le_refl _) _
      have XN2 := kide (Bz.new u1 #[Value.int .i64 yv, Value.int .i64 ylo, Value.int .i64 ybw, Value.slice a5 yn c5] 86)
      have NN2 := kide (NN1.out.later hbx)
      have O2 := kide (O1.out.later hbx)
      have X2 := kide (X1.out.later hbx)
      have W2 := kide (fun x hx => And.intro ((W1.out x hx).1.later hbx) (W1.out x hx).2)
      have BB2 : Hid (Below w.heap.size w (u1.alloc (Obj.cells #[Value.int .i64 yv, Value.int .i64 ylo, Value.int .i64 ybw, Value.slice a5 yn c5] 86))) := BB1.out.alloc BB1.out.size _
      obtain ⟨gn, hgn⟩ : ∃ x, u1.heap.size = x := ⟨_, rfl⟩
      rw [hgn] at XN2
      simp only [hgn]
      clear hbx hgn
      generalize u1.alloc (Obj.cells #[Value.int .i64 yv, Value.int .i64 ylo, Value.int .i64 ybw, Value.slice a5 yn c5] 86) = u2 at *
      have c0_2 : u2.cell? ⟨b0, 0, none⟩ = some (Value.int .i64 yv) := X2.out.cell 0
      have c1_2 : u2.cell? ⟨b0, 1, none⟩ = some (Value.int .i64 ylo) := X2.out.cell 1
      have c2_2 : u2.cell? ⟨b0, 2, none⟩ = some (Value.int .i64 ybw) := X2.out.cell 2
      have c3_2 : u2.cell? ⟨b0, 3, none⟩ = some (Value.slice ya yn yc) := X2.out.cell 3
      have hs2 : Hid ((fun uu => uu.cell? ⟨b0, 0, none⟩ = some (Value.int .i64 yv) ∧ uu.cell? ⟨b0, 1, none⟩ = some (Value.int .i64 ylo) ∧ uu.cell? ⟨b0, 2, none⟩ = some (Value.int .i64 ybw) ∧ uu.cell? ⟨b0, 3, none⟩ = some (Value.slice ya yn yc)) u2) := ⟨c0_2, c1_2, c2_2, c3_2⟩
      refine hK _ _ (Sx.behind (by kernel_rfl) hs2.out) ?_
      clear hK K
      try go_simp
      refine wpAnyX_ready (rs := [10]) (by kernel_rfl) (by simp) (AllX.cons rfl (fun K hK => ?_) AllX.nil)
      refine step_appB4 _ rfl _ _ rfl B (.slice av n cv) l ⟨⟨yv, ylo, ybw, yws⟩, a5, c5⟩ (by first | rfl | simp [Act.eval]) O2.out gn 1 (by first | rfl | simp [Act.eval]) (XN2.out.cell 0) (XN2.out.cell 1) (XN2.out.cell 2) ((XN2.out.cell 3).trans (by rw [HYN.out]; rfl)) (by have := HN.out; omega) (Nat.le_trans hB BB2.out.size) ?_
      intro g7 c7 u3 ho hg
      have hks := Ksb.grown hg (fun b hb => O2.out.typed hb)
      have OF3 := kide ho
      have NN3 := kide (nw_ksb NN2.out hks)
      have W3 := kide (fun x hx => And.intro (nw_ksb (W2.out x hx).1 hks) (W2.out x hx).2)
      have X3 : Hid (Bz u3 b0 #[Value.int .i64 yv, Value.int .i64 ylo, Value.int .i64 ybw, Value.slice ya yn yc] 86) := (hg.block b0 X2.out.lt (fun e => by have := (HO.out.lt e.symm).2; have := HB0.out; omega)).trans X2.out
      have BF3 : Hid (Below B w u3) := Below.grown (BB2.out.mono hB) hg (Nat.le_trans hB BB2.out.size) (fun j hj => (O2.out.lt hj).1)
      have KF3 := kide ((Ksb.of BB2.out).trans hks)
      clear ho hg hks
      have c0_3 : u3.cell? ⟨b0, 0, none⟩ = some (Value.int .i64 yv) := X3.out.cell 0
      have c1_3 : u3.cell? ⟨b0, 1, none⟩ = some (Value.int .i64 ylo) := X3.out.cell 1
      have c2_3 : u3.cell? ⟨b0, 2, none⟩ = some (Value.int .i64 ybw) := X3.out.cell 2
      have c3_3 : u3.cell? ⟨b0, 3, none⟩ = some (Value.slice ya yn yc) := X3.out.cell 3
      have hs3 : Hid ((fun uu => uu.cell? ⟨b0, 0, none⟩ = some (Value.int .i64 yv) ∧ uu.cell? ⟨b0, 1, none⟩ = some (Value.int .i64 ylo) ∧ uu.cell? ⟨b0, 2, none⟩ = some (Value.int .i64 ybw) ∧ uu.cell? ⟨b0, 3, none⟩ = some (Value.slice ya yn yc)) u3) := ⟨c0_3, c1_3, c2_3, c3_3⟩
      refine hK _ _ (Sx.behind (by kernel_rfl) hs3.out) ?_
      clear hK K
      try go_simp
      refine wpAnyX_both (T := (fun _ => True)) (i := 11) (v := Value.slice (some ⟨g7, 0, none⟩) (l.length + 1) c7) rfl (by kernel_rfl) (by kernel_rfl) (by kernel_rfl) (fun _ _ _ h => by first | exact h | exact h.elim) (by decide) (fun _ _ => trivial) (fun _ _ => trivial) (Sx.behind (by kernel_rfl) hs3.out) (Or.inl ⟨by rfl, fun uu hu => by go_simp⟩) ?_
      try go_simp
      refine wpAnyX_done (by kernel_rfl) ?_ _
      go_wp2_with fail
      go_ret
      refine ⟨Value.slice (some ⟨g7, 0, none⟩) (l.length + 1) c7, l ++ [⟨⟨yv, ylo, ybw, yws⟩, a5, c5⟩], rfl, OF3.out, HPUT.out _ _, fun x hx => ?_, BF3.out, KF3.out⟩
      rcases List.mem_append.1 hx with hx | hx
      · exact W3.out x hx
      · simp at hx; subst hx; exact ⟨Nw.mono NN3.out (Nat.le_trans hB BB0.out.size), by have h9 := HY.out; rw [HZ.out] at h9; exact h9⟩

end Go.Proofs.Ythoiajpbpoglfaa
