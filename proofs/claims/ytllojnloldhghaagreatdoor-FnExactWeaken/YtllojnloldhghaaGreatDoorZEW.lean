/- Several texts in one. -/
import Derived.Test.YtllojnloldhghaaGreatDoorEO
import Derived.Test.YtllojnloldhghaaGreatDoorZBC
import Derived.Test.YtllojnloldhghaaGreatDoorZBD

/- What the specification's l4Node answers. -/
namespace Go.Proofs.YtllojnloldhghaaGreatDoor
set_option linter.unusedVariables false
set_option linter.unusedSimpArgs false
open Go.RowKit

/-- An answer that is a word that lies somewhere. -/
def RetA (u : World) (W : Int) (a : Option Addr) (m c : Nat) (e : Ending) (w' : World) : Prop := e = .returned (.agg #[.int .i64 W, .slice a m c]) ∧ Below u.heap.size u w'

set_option maxHeartbeats 1000000 in
set_option maxRecDepth 100000 in
theorem l4Var_any (va k2 wa ka : Option Addr) (vc kc2 wc kc : Nat) (vs kd : List Bw) (vr A B bw : Int) (ws : List Nat) (ks : List Int) (u : World) (k : Nat) (x : Bw) (hv : RdW u va vs) (hk : vr = (k : Int)) (hx : vs[k]? = some x) :
    Calls Tryz.prog 96 #[.slice va vs.length vc, nodA ⟨1, vr, A, B, bw, ws, ks⟩ wa ka wc kc, .slice k2 kd.length kc2] u (RetA u x.wd x.a x.ws.length x.c) := by
  have hkl := (List.getElem?_eq_some_iff.1 hx).1
  have hla := hv.1
  obtain ⟨-, h | ⟨vb, vo, rfl, hvc⟩⟩ := hv
  · rw [h] at hkl; simp at hkl
  obtain ⟨p0, p1, -, -⟩ := hvc k x hx
  have hkl' : (k : Int) < (vs.length : Int) := by omega
  subst hk
  obtain ⟨wd, xa, xc, xs⟩ := x
  simp only [nodA] at *
  clear hvc hx
  generalize ws.length = wl at *
  generalize ks.length = kl at *
  have XA : Bz (((u.alloc (Obj.cells #[Value.int .i64 1, Value.int .i64 (k : Int), Value.int .i64 A, Value.int .i64 B, Value.int .i64 bw, Value.slice wa wl wc, Value.slice ka kl kc] 116)).alloc (Obj.cells #[Value.int .i64 0, Value.slice none 0 0] 82)).alloc (Obj.cells #[Value.int .i64 0, Value.slice none 0 0] 82)) u.heap.size #[Value.int .i64 1, Value.int .i64 (k : Int), Value.int .i64 A, Value.int .i64 B, Value.int .i64 bw, Value.slice wa wl wc, Value.slice ka kl kc] 116 := ((Bz.new u #[Value.int .i64 1, Value.int .i64 (k : Int), Value.int .i64 A, Value.int .i64 B, Value.int .i64 bw, Value.slice wa wl wc, Value.slice ka kl kc] 116).later ((Below.refl _ _).alloc (Nat.le_refl _) _)).later ((Below.refl _ _).alloc (Nat.le_refl _) _)
  have XR : Bz (((u.alloc (Obj.cells #[Value.int .i64 1, Value.int .i64 (k : Int), Value.int .i64 A, Value.int .i64 B, Value.int .i64 bw, Value.slice wa wl wc, Value.slice ka kl kc] 116)).alloc (Obj.cells #[Value.int .i64 0, Value.slice none 0 0] 82)).alloc (Obj.cells #[Value.int .i64 0, Value.slice none 0 0] 82)) (u.heap.size + 1) #[Value.int .i64 0, Value.slice none 0 0] 82 := by
    have := (Bz.new (u.alloc (Obj.cells #[Value.int .i64 1, Value.int .i64 (k : Int), Value.int .i64 A, Value.int .i64 B, Value.int .i64 bw, Value.slice wa wl wc, Value.slice ka kl kc] 116)) #[Value.int .i64 0, Value.slice none 0 0] 82).later ((Below.refl _ _).alloc (Nat.le_refl _) (Obj.cells #[Value.int .i64 0, Value.slice none 0 0] 82))
    rw [World.size_alloc] at this
    exact this
  have XQ : Bz (((u.alloc (Obj.cells #[Value.int .i64 1, Value.int .i64 (k : Int), Value.int .i64 A, Value.int .i64 B, Value.int .i64 bw, Value.slice wa wl wc, Value.slice ka kl kc] 116)).alloc (Obj.cells #[Value.int .i64 0, Value.slice none 0 0] 82)).alloc (Obj.cells #[Value.int .i64 0, Value.slice none 0 0] 82)) (u.heap.size + 1 + 1) #[Value.int .i64 0, Value.slice none 0 0] 82 := by
    have := Bz.new ((u.alloc (Obj.cells #[Value.int .i64 1, Value.int .i64 (k : Int), Value.int .i64 A, Value.int .i64 B, Value.int .i64 bw, Value.slice wa wl wc, Value.slice ka kl kc] 116)).alloc (Obj.cells #[Value.int .i64 0, Value.slice none 0 0] 82)) #[Value.int .i64 0, Value.slice none 0 0] 82
    simp only [World.size_alloc] at this
    exact this
  have BW : Below u.heap.size u (((u.alloc (Obj.cells #[Value.int .i64 1, Value.int .i64 (k : Int), Value.int .i64 A, Value.int .i64 B, Value.int .i64 bw, Value.slice wa wl wc, Value.slice ka kl kc] 116)).alloc (Obj.cells #[Value.int .i64 0, Value.slice none 0 0] 82)).alloc (Obj.cells #[Value.int .i64 0, Value.slice none 0 0] 82)) := Ba (Ba (Ba (Below.refl _ _) _) _) _
  have d0 := (kcell BW _ _ (block_lt_of_cell p0)).trans p0
  have d1 := (kcell BW _ _ (block_lt_of_cell p1)).trans p1
  have t0 : (((u.alloc (Obj.cells #[Value.int .i64 1, Value.int .i64 (k : Int), Value.int .i64 A, Value.int .i64 B, Value.int .i64 bw, Value.slice wa wl wc, Value.slice ka kl kc] 116)).alloc (Obj.cells #[Value.int .i64 0, Value.slice none 0 0] 82)).alloc (Obj.cells #[Value.int .i64 0, Value.slice none 0 0] 82)).cell? ⟨u.heap.size, 0, none⟩ = some (.int .i64 1) := XA.cell 0
  have t1 : (((u.alloc (Obj.cells #[Value.int .i64 1, Value.int .i64 (k : Int), Value.int .i64 A, Value.int .i64 B, Value.int .i64 bw, Value.slice wa wl wc, Value.slice ka kl kc] 116)).alloc (Obj.cells #[Value.int .i64 0, Value.slice none 0 0] 82)).alloc (Obj.cells #[Value.int .i64 0, Value.slice none 0 0] 82)).cell? ⟨u.heap.size, 1, none⟩ = some (.int .i64 (k : Int)) := XA.cell 1
  have q0 := XQ.froz 0
  have q1 := XQ.froz 1
  clear p0 p1
  go_enter Tryz.func96, Tryz.ntmps96
  go_wp2_with fail
  exact bodyPost_ret (v := .agg #[.int .i64 wd, .slice xa xs.length xc]) (by simp [results, Tryz.results96, go_sem]) rfl ⟨rfl, Ba (Ba (Ba (Below.refl _ _) _) _) _⟩

set_option maxHeartbeats 1000000 in
set_option maxRecDepth 100000 in
theorem l4Con_any (va k2 wa ka : Option Addr) (vc kc2 wc kc : Nat) (vs kd : List Bw) (vr A B bw : Int) (ws : List Nat) (ks : List Int) (u : World) : Calls Tryz.prog 96 #[.slice va vs.length vc, nodA ⟨2, vr, A, B, bw, ws, ks⟩ wa ka wc kc, .slice k2 kd.length kc2] u (RetA u bw wa ws.length wc) := by
  simp only [nodA] at *
  generalize ks.length = kl at *
  have XA : Bz (((u.alloc (Obj.cells #[Value.int .i64 2, Value.int .i64 vr, Value.int .i64 A, Value.int .i64 B, Value.int .i64 bw, Value.slice wa ws.length wc, Value.slice ka kl kc] 116)).alloc (Obj.cells #[Value.int .i64 0, Value.slice none 0 0] 82)).alloc (Obj.cells #[Value.int .i64 0, Value.slice none 0 0] 82)) u.heap.size #[Value.int .i64 2, Value.int .i64 vr, Value.int .i64 A, Value.int .i64 B, Value.int .i64 bw, Value.slice wa ws.length wc, Value.slice ka kl kc] 116 := ((Bz.new u #[Value.int .i64 2, Value.int .i64 vr, Value.int .i64 A, Value.int .i64 B, Value.int .i64 bw, Value.slice wa ws.length wc, Value.slice ka kl kc] 116).later ((Below.refl _ _).alloc (Nat.le_refl _) _)).later ((Below.refl _ _).alloc (Nat.le_refl _) _)
  have XR : Bz (((u.alloc (Obj.cells #[Value.int .i64 2, Value.int .i64 vr, Value.int .i64 A, Value.int .i64 B, Value.int .i64 bw, Value.slice wa ws.length wc, Value.slice ka kl kc] 116)).alloc (Obj.cells #[Value.int .i64 0, Value.slice none 0 0] 82)).alloc (Obj.cells #[Value.int .i64 0, Value.slice none 0 0] 82)) (u.heap.size + 1) #[Value.int .i64 0, Value.slice none 0 0] 82 := by
    have := (Bz.new (u.alloc (Obj.cells #[Value.int .i64 2, Value.int .i64 vr, Value.int .i64 A, Value.int .i64 B, Value.int .i64 bw, Value.slice wa ws.length wc, Value.slice ka kl kc] 116)) #[Value.int .i64 0, Value.slice none 0 0] 82).later ((Below.refl _ _).alloc (Nat.le_refl _) (Obj.cells #[Value.int .i64 0, Value.slice none 0 0] 82))
    rw [World.size_alloc] at this
    exact this
  have XQ : Bz (((u.alloc (Obj.cells #[Value.int .i64 2, Value.int .i64 vr, Value.int .i64 A, Value.int .i64 B, Value.int .i64 bw, Value.slice wa ws.length wc, Value.slice ka kl kc] 116)).alloc (Obj.cells #[Value.int .i64 0, Value.slice none 0 0] 82)).alloc (Obj.cells #[Value.int .i64 0, Value.slice none 0 0] 82)) (u.heap.size + 1 + 1) #[Value.int .i64 0, Value.slice none 0 0] 82 := by
    have := Bz.new ((u.alloc (Obj.cells #[Value.int .i64 2, Value.int .i64 vr, Value.int .i64 A, Value.int .i64 B, Value.int .i64 bw, Value.slice wa ws.length wc, Value.slice ka kl kc] 116)).alloc (Obj.cells #[Value.int .i64 0, Value.slice none 0 0] 82)) #[Value.int .i64 0, Value.slice none 0 0] 82
    simp only [World.size_alloc] at this
    exact this
  have BW : Below u.heap.size u (((u.alloc (Obj.cells #[Value.int .i64 2, Value.int .i64 vr, Value.int .i64 A, Value.int .i64 B, Value.int .i64 bw, Value.slice wa ws.length wc, Value.slice ka kl kc] 116)).alloc (Obj.cells #[Value.int .i64 0, Value.slice none 0 0] 82)).alloc (Obj.cells #[Value.int .i64 0, Value.slice none 0 0] 82)) := Ba (Ba (Ba (Below.refl _ _) _) _) _
  have t0 : (((u.alloc (Obj.cells #[Value.int .i64 2, Value.int .i64 vr, Value.int .i64 A, Value.int .i64 B, Value.int .i64 bw, Value.slice wa ws.length wc, Value.slice ka kl kc] 116)).alloc (Obj.cells #[Value.int .i64 0, Value.slice none 0 0] 82)).alloc (Obj.cells #[Value.int .i64 0, Value.slice none 0 0] 82)).cell? ⟨u.heap.size, 0, none⟩ = some (.int .i64 2) := XA.cell 0
  have t4 : (((u.alloc (Obj.cells #[Value.int .i64 2, Value.int .i64 vr, Value.int .i64 A, Value.int .i64 B, Value.int .i64 bw, Value.slice wa ws.length wc, Value.slice ka kl kc] 116)).alloc (Obj.cells #[Value.int .i64 0, Value.slice none 0 0] 82)).alloc (Obj.cells #[Value.int .i64 0, Value.slice none 0 0] 82)).cell? ⟨u.heap.size, 4, none⟩ = some (.int .i64 bw) := XA.cell 4
  have t5 : (((u.alloc (Obj.cells #[Value.int .i64 2, Value.int .i64 vr, Value.int .i64 A, Value.int .i64 B, Value.int .i64 bw, Value.slice wa ws.length wc, Value.slice ka kl kc] 116)).alloc (Obj.cells #[Value.int .i64 0, Value.slice none 0 0] 82)).alloc (Obj.cells #[Value.int .i64 0, Value.slice none 0 0] 82)).cell? ⟨u.heap.size, 5, none⟩ = some (.slice wa ws.length wc) := XA.cell 5
  go_enter Tryz.func96, Tryz.ntmps96
  go_wp2_with fail
  exact bodyPost_ret (v := .agg #[.int .i64 bw, .slice wa ws.length wc]) (by simp [results, Tryz.results96, go_sem]) rfl ⟨rfl, Ba (Ba (Ba (Below.refl _ _) _) _) _⟩

set_option maxHeartbeats 2000000 in
set_option maxRecDepth 100000 in
theorem l4Part_any (va k2 wa ka : Option Addr) (vc kc2 wc kc : Nat) (vs kd : List Bw) (vr A B bw : Int) (ws : List Nat) (ks : List Int) (u : World) (x : Bw) (hd : RdW u k2 kd) (hx : kd[0]? = some x) (h64 : (Lit.int .i64 A).wf = true) :
    Calls Tryz.prog 96 #[.slice va vs.length vc, nodA ⟨4, vr, A, B, bw, ws, ks⟩ wa ka wc kc, .slice k2 kd.length kc2] u (RetV u (two (partR x.wd x.ws A B))) := by
  have hkl := (List.getElem?_eq_some_iff.1 hx).1
  have hla := hd.1
  obtain ⟨-, h | ⟨kb, ko, rfl, hkc⟩⟩ := hd
  · rw [h] at hkl; simp at hkl
  obtain ⟨p0, p1, hxr, -⟩ := hkc 0 x hx
  rw [Nat.zero_mul, Nat.add_zero] at p0 p1
  have HOP := kide (fun v (hv : Below u.heap.size u v) => specPart_any x.wd x.a x.c x.ws A B v (hxr.later hv) h64)
  have hkl' : (0 : Int) < (kd.length : Int) := by omega
  have lK := block_lt_of_cell p0
  obtain ⟨wd, xa, xc, xs⟩ := x
  simp only [nodA, RetB] at *
  clear hkc hx hxr
  generalize hR : partR wd xs A B = R at *
  clear hR
  generalize ws.length = wl at *
  generalize ks.length = kl at *
  have XA : Bz (((u.alloc (Obj.cells #[Value.int .i64 4, Value.int .i64 vr, Value.int .i64 A, Value.int .i64 B, Value.int .i64 bw, Value.slice wa wl wc, Value.slice ka kl kc] 116)).alloc (Obj.cells #[Value.int .i64 0, Value.slice none 0 0] 82)).alloc (Obj.cells #[Value.int .i64 0, Value.slice none 0 0] 82)) u.heap.size #[Value.int .i64 4, Value.int .i64 vr, Value.int .i64 A, Value.int .i64 B, Value.int .i64 bw, Value.slice wa wl wc, Value.slice ka kl kc] 116 := ((Bz.new u #[Value.int .i64 4, Value.int .i64 vr, Value.int .i64 A, Value.int .i64 B, Value.int .i64 bw, Value.slice wa wl wc, Value.slice ka kl kc] 116).later ((Below.refl _ _).alloc (Nat.le_refl _) _)).later ((Below.refl _ _).alloc (Nat.le_refl _) _)
  have XR : Bz (((u.alloc (Obj.cells #[Value.int .i64 4, Value.int .i64 vr, Value.int .i64 A, Value.int .i64 B, Value.int .i64 bw, Value.slice wa wl wc, Value.slice ka kl kc] 116)).alloc (Obj.cells #[Value.int .i64 0, Value.slice none 0 0] 82)).alloc (Obj.cells #[Value.int .i64 0, Value.slice none 0 0] 82)) (u.heap.size + 1) #[Value.int .i64 0, Value.slice none 0 0] 82 := by
    have := (Bz.new (u.alloc (Obj.cells #[Value.int .i64 4, Value.int .i64 vr, Value.int .i64 A, Value.int .i64 B, Value.int .i64 bw, Value.slice wa wl wc, Value.slice ka kl kc] 116)) #[Value.int .i64 0, Value.slice none 0 0] 82).later ((Below.refl _ _).alloc (Nat.le_refl _) (Obj.cells #[Value.int .i64 0, Value.slice none 0 0] 82))
    rw [World.size_alloc] at this
    exact this
  have XQ : Bz (((u.alloc (Obj.cells #[Value.int .i64 4, Value.int .i64 vr, Value.int .i64 A, Value.int .i64 B, Value.int .i64 bw, Value.slice wa wl wc, Value.slice ka kl kc] 116)).alloc (Obj.cells #[Value.int .i64 0, Value.slice none 0 0] 82)).alloc (Obj.cells #[Value.int .i64 0, Value.slice none 0 0] 82)) (u.heap.size + 1 + 1) #[Value.int .i64 0, Value.slice none 0 0] 82 := by
    have := Bz.new ((u.alloc (Obj.cells #[Value.int .i64 4, Value.int .i64 vr, Value.int .i64 A, Value.int .i64 B, Value.int .i64 bw, Value.slice wa wl wc, Value.slice ka kl kc] 116)).alloc (Obj.cells #[Value.int .i64 0, Value.slice none 0 0] 82)) #[Value.int .i64 0, Value.slice none 0 0] 82
    simp only [World.size_alloc] at this
    exact this
  have BW : Below u.heap.size u (((u.alloc (Obj.cells #[Value.int .i64 4, Value.int .i64 vr, Value.int .i64 A, Value.int .i64 B, Value.int .i64 bw, Value.slice wa wl wc, Value.slice ka kl kc] 116)).alloc (Obj.cells #[Value.int .i64 0, Value.slice none 0 0] 82)).alloc (Obj.cells #[Value.int .i64 0, Value.slice none 0 0] 82)) := Ba (Ba (Ba (Below.refl _ _) _) _) _
  have d0 := (kcell BW _ _ (block_lt_of_cell p0)).trans p0
  have d1 := (kcell BW _ _ (block_lt_of_cell p1)).trans p1
  have t0 : (((u.alloc (Obj.cells #[Value.int .i64 4, Value.int .i64 vr, Value.int .i64 A, Value.int .i64 B, Value.int .i64 bw, Value.slice wa wl wc, Value.slice ka kl kc] 116)).alloc (Obj.cells #[Value.int .i64 0, Value.slice none 0 0] 82)).alloc (Obj.cells #[Value.int .i64 0, Value.slice none 0 0] 82)).cell? ⟨u.heap.size, 0, none⟩ = some (.int .i64 4) := XA.cell 0
  have d2 : (((u.alloc (Obj.cells #[Value.int .i64 4, Value.int .i64 vr, Value.int .i64 A, Value.int .i64 B, Value.int .i64 bw, Value.slice wa wl wc, Value.slice ka kl kc] 116)).alloc (Obj.cells #[Value.int .i64 0, Value.slice none 0 0] 82)).alloc (Obj.cells #[Value.int .i64 0, Value.slice none 0 0] 82)).cell? ⟨u.heap.size, 2, none⟩ = some (.int .i64 A) := XA.cell 2
  have d3 : (((u.alloc (Obj.cells #[Value.int .i64 4, Value.int .i64 vr, Value.int .i64 A, Value.int .i64 B, Value.int .i64 bw, Value.slice wa wl wc, Value.slice ka kl kc] 116)).alloc (Obj.cells #[Value.int .i64 0, Value.slice none 0 0] 82)).alloc (Obj.cells #[Value.int .i64 0, Value.slice none 0 0] 82)).cell? ⟨u.heap.size, 3, none⟩ = some (.int .i64 B) := XA.cell 3
  have m0 := Nat.lt_of_lt_of_le lK BW.size
  have m2 := XA.lt
  try simp only [] at lK m0
  clear p0 p1
  go_enter Tryz.func96, Tryz.ntmps96
  go_wp2_with fail
  generalize (((u.alloc (Obj.cells #[Value.int .i64 4, Value.int .i64 vr, Value.int .i64 A, Value.int .i64 B, Value.int .i64 bw, Value.slice wa wl wc, Value.slice ka kl kc] 116)).alloc (Obj.cells #[Value.int .i64 0, Value.slice none 0 0] 82)).alloc (Obj.cells #[Value.int .i64 0, Value.slice none 0 0] 82)) = w1 at *
  go_region_held_law (fun v => v.cell? ⟨kb, ko, none⟩ = some (.int .i64 wd) ∧ v.cell? ⟨kb, ko + 1, none⟩ = some (.slice xa xs.length xc) ∧ v.cell? ⟨u.heap.size, 2, none⟩ = some (.int .i64 A) ∧ v.cell? ⟨u.heap.size, 3, none⟩ = some (.int .i64 B))
    (first | (refine ⟨?_, ?_, ?_, ?_⟩ <;> assumption) | (refine ⟨?_, ?_, ?_, ?_⟩ <;> ((first | rw [set2_far _ _ _ _ _ (by simp only []; omega)] | rw [drew2_far _ _ _ _ _ (by simp only []; omega)]); assumption)))
    ((go_at_call 127; refine Calls.mono (HOP.out _ ?_) ?_; exact BW.drew; rintro e w2 ⟨a5, c5, rfl, hf2, hb2⟩; replace hb2 := kundrew hb2; have XR2 := XR.later hb2; have XQ2 := XQ.later hb2; have d0x := (kcell hb2 _ _ m0).trans d0; have d1x := (kcell hb2 _ _ m0).trans d1; have d2x := (kcell hb2 _ _ m2).trans d2; have d3x := (kcell hb2 _ _ m2).trans d3; have r0 := XQ2.cell 0; have r1 := XQ2.cell 1; have f50 := XQ2.froz 0; have f51 := XQ2.froz 1; simp at r0 r1; have NW2 := kide ((Fresh.nw hf2).mono (lo' := u.heap.size) BW.size)))
  have BW2 := BW.trans (hb2.mono BW.size)
  have XQ3 := (XQ2.set 0 (.int .i64 R.1)).set 1 (.slice a5 R.2.1.length c5)
  have XR3 := (XR2.other (c := u.heap.size + 1 + 1) (by omega) 0 (.int .i64 R.1)).other (c := u.heap.size + 1 + 1) (by omega) 1 (.slice a5 R.2.1.length c5)
  have NW3 := (NW2.out.set XQ2 (by decide) 0 (.int .i64 R.1)).set (XQ2.set 0 (.int .i64 R.1)) (by decide) 1 (.slice a5 R.2.1.length c5)
  have BW3 := (BW2.setCell (p := ⟨u.heap.size + 1 + 1, 0, none⟩) (show u.heap.size ≤ u.heap.size + 1 + 1 by omega) (.int .i64 R.1)).setCell (p := ⟨u.heap.size + 1 + 1, 1, none⟩) (show u.heap.size ≤ u.heap.size + 1 + 1 by omega) (.slice a5 R.2.1.length c5)
  have z0 := XQ3.cell 0
  have z1 := XQ3.cell 1
  have s0 := XR3.cell 0
  have s1 := XR3.cell 1
  have g0 := XR3.froz 0
  have g1 := XR3.froz 1
  simp only [List.setIfInBounds_toArray, List.set_cons_zero, List.set_cons_succ, List.getElem?_toArray, List.getElem?_cons_zero, List.getElem?_cons_succ] at z0 z1 s0 s1
  clear r0 r1 f50 f51
  go_wp2_with fail
  obtain ⟨y0, y1⟩ := ((Bz.blk XR3).put0' (.int .i64 R.1)).put1' (.slice a5 R.2.1.length c5) |>.cells
  have HE := RetV.box (W := R.1) (c := c5) (Bz.blk XR3) NW3 (Nat.le_refl _) (Nat.le_succ _) BW3
  refine bodyPost_ret (v := .agg #[.int .i64 R.1, .slice a5 R.2.1.length c5]) (by simp [results, Tryz.results96, go_sem, y0, y1]) rfl ?_
  first | exact HE | exact ⟨a5, c5, rfl, (by obtain ⟨a', c', he, h, -⟩ := HE; cases he; exact h), (by obtain ⟨-, -, -, -, h⟩ := HE; exact h.drew)⟩

set_option maxHeartbeats 2000000 in
set_option maxRecDepth 100000 in
theorem l4Zero_any (va k2 wa ka : Option Addr) (vc kc2 wc kc : Nat) (vs kd : List Bw) (vr A B bw : Int) (ws : List Nat) (ks : List Int) (u : World) (x : Bw) (hd : RdW u k2 kd) (hx : kd[0]? = some x) :
    Calls Tryz.prog 96 #[.slice va vs.length vc, nodA ⟨5, vr, A, B, bw, ws, ks⟩ wa ka wc kc, .slice k2 kd.length kc2] u (RetV u (two (wdnR x.wd x.ws A false))) := by
  have hkl := (List.getElem?_eq_some_iff.1 hx).1
  have hla := hd.1
  obtain ⟨-, h | ⟨kb, ko, rfl, hkc⟩⟩ := hd
  · rw [h] at hkl; simp at hkl
  obtain ⟨p0, p1, hxr, -⟩ := hkc 0 x hx
  rw [Nat.zero_mul, Nat.add_zero] at p0 p1
  have HOP := kide (fun v (hv : Below u.heap.size u v) => specWid_any x.wd x.a x.c x.ws A false v (hxr.later hv))
  have hkl' : (0 : Int) < (kd.length : Int) := by omega
  have lK := block_lt_of_cell p0
  obtain ⟨wd, xa, xc, xs⟩ := x
  simp only [nodA, RetB] at *
  clear hkc hx hxr
  generalize hR : wdnR wd xs A false = R at *
  clear hR
  generalize ws.length = wl at *
  generalize ks.length = kl at *
  have XA : Bz (((u.alloc (Obj.cells #[Value.int .i64 5, Value.int .i64 vr, Value.int .i64 A, Value.int .i64 B, Value.int .i64 bw, Value.slice wa wl wc, Value.slice ka kl kc] 116)).alloc (Obj.cells #[Value.int .i64 0, Value.slice none 0 0] 82)).alloc (Obj.cells #[Value.int .i64 0, Value.slice none 0 0] 82)) u.heap.size #[Value.int .i64 5, Value.int .i64 vr, Value.int .i64 A, Value.int .i64 B, Value.int .i64 bw, Value.slice wa wl wc, Value.slice ka kl kc] 116 := ((Bz.new u #[Value.int .i64 5, Value.int .i64 vr, Value.int .i64 A, Value.int .i64 B, Value.int .i64 bw, Value.slice wa wl wc, Value.slice ka kl kc] 116).later ((Below.refl _ _).alloc (Nat.le_refl _) _)).later ((Below.refl _ _).alloc (Nat.le_refl _) _)
  have XR : Bz (((u.alloc (Obj.cells #[Value.int .i64 5, Value.int .i64 vr, Value.int .i64 A, Value.int .i64 B, Value.int .i64 bw, Value.slice wa wl wc, Value.slice ka kl kc] 116)).alloc (Obj.cells #[Value.int .i64 0, Value.slice none 0 0] 82)).alloc (Obj.cells #[Value.int .i64 0, Value.slice none 0 0] 82)) (u.heap.size + 1) #[Value.int .i64 0, Value.slice none 0 0] 82 := by
    have := (Bz.new (u.alloc (Obj.cells #[Value.int .i64 5, Value.int .i64 vr, Value.int .i64 A, Value.int .i64 B, Value.int .i64 bw, Value.slice wa wl wc, Value.slice ka kl kc] 116)) #[Value.int .i64 0, Value.slice none 0 0] 82).later ((Below.refl _ _).alloc (Nat.le_refl _) (Obj.cells #[Value.int .i64 0, Value.slice none 0 0] 82))
    rw [World.size_alloc] at this
    exact this
  have XQ : Bz (((u.alloc (Obj.cells #[Value.int .i64 5, Value.int .i64 vr, Value.int .i64 A, Value.int .i64 B, Value.int .i64 bw, Value.slice wa wl wc, Value.slice ka kl kc] 116)).alloc (Obj.cells #[Value.int .i64 0, Value.slice none 0 0] 82)).alloc (Obj.cells #[Value.int .i64 0, Value.slice none 0 0] 82)) (u.heap.size + 1 + 1) #[Value.int .i64 0, Value.slice none 0 0] 82 := by
    have := Bz.new ((u.alloc (Obj.cells #[Value.int .i64 5, Value.int .i64 vr, Value.int .i64 A, Value.int .i64 B, Value.int .i64 bw, Value.slice wa wl wc, Value.slice ka kl kc] 116)).alloc (Obj.cells #[Value.int .i64 0, Value.slice none 0 0] 82)) #[Value.int .i64 0, Value.slice none 0 0] 82
    simp only [World.size_alloc] at this
    exact this
  have BW : Below u.heap.size u (((u.alloc (Obj.cells #[Value.int .i64 5, Value.int .i64 vr, Value.int .i64 A, Value.int .i64 B, Value.int .i64 bw, Value.slice wa wl wc, Value.slice ka kl kc] 116)).alloc (Obj.cells #[Value.int .i64 0, Value.slice none 0 0] 82)).alloc (Obj.cells #[Value.int .i64 0, Value.slice none 0 0] 82)) := Ba (Ba (Ba (Below.refl _ _) _) _) _
  have d0 := (kcell BW _ _ (block_lt_of_cell p0)).trans p0
  have d1 := (kcell BW _ _ (block_lt_of_cell p1)).trans p1
  have t0 : (((u.alloc (Obj.cells #[Value.int .i64 5, Value.int .i64 vr, Value.int .i64 A, Value.int .i64 B, Value.int .i64 bw, Value.slice wa wl wc, Value.slice ka kl kc] 116)).alloc (Obj.cells #[Value.int .i64 0, Value.slice none 0 0] 82)).alloc (Obj.cells #[Value.int .i64 0, Value.slice none 0 0] 82)).cell? ⟨u.heap.size, 0, none⟩ = some (.int .i64 5) := XA.cell 0
  have d2 : (((u.alloc (Obj.cells #[Value.int .i64 5, Value.int .i64 vr, Value.int .i64 A, Value.int .i64 B, Value.int .i64 bw, Value.slice wa wl wc, Value.slice ka kl kc] 116)).alloc (Obj.cells #[Value.int .i64 0, Value.slice none 0 0] 82)).alloc (Obj.cells #[Value.int .i64 0, Value.slice none 0 0] 82)).cell? ⟨u.heap.size, 2, none⟩ = some (.int .i64 A) := XA.cell 2
  have m0 := Nat.lt_of_lt_of_le lK BW.size
  have m2 := XA.lt
  try simp only [] at lK m0
  clear p0 p1
  go_enter Tryz.func96, Tryz.ntmps96
  go_wp2_with fail
  generalize (((u.alloc (Obj.cells #[Value.int .i64 5, Value.int .i64 vr, Value.int .i64 A, Value.int .i64 B, Value.int .i64 bw, Value.slice wa wl wc, Value.slice ka kl kc] 116)).alloc (Obj.cells #[Value.int .i64 0, Value.slice none 0 0] 82)).alloc (Obj.cells #[Value.int .i64 0, Value.slice none 0 0] 82)) = w1 at *
  go_region_held_law (fun v => v.cell? ⟨kb, ko, none⟩ = some (.int .i64 wd) ∧ v.cell? ⟨kb, ko + 1, none⟩ = some (.slice xa xs.length xc) ∧ v.cell? ⟨u.heap.size, 2, none⟩ = some (.int .i64 A))
    (first | (refine ⟨?_, ?_, ?_⟩ <;> assumption) | (refine ⟨?_, ?_, ?_⟩ <;> ((first | rw [set2_far _ _ _ _ _ (by simp only []; omega)] | rw [drew2_far _ _ _ _ _ (by simp only []; omega)]); assumption)))
    ((go_at_call 128; refine Calls.mono (HOP.out _ ?_) ?_; exact BW.drew; rintro e w2 ⟨a5, c5, rfl, hf2, hb2⟩; replace hb2 := kundrew hb2; have XR2 := XR.later hb2; have XQ2 := XQ.later hb2; have d0x := (kcell hb2 _ _ m0).trans d0; have d1x := (kcell hb2 _ _ m0).trans d1; have d2x := (kcell hb2 _ _ m2).trans d2; have r0 := XQ2.cell 0; have r1 := XQ2.cell 1; have f50 := XQ2.froz 0; have f51 := XQ2.froz 1; simp at r0 r1; have NW2 := kide ((Fresh.nw hf2).mono (lo' := u.heap.size) BW.size)))
  have BW2 := BW.trans (hb2.mono BW.size)
  have XQ3 := (XQ2.set 0 (.int .i64 R.1)).set 1 (.slice a5 R.2.1.length c5)
  have XR3 := (XR2.other (c := u.heap.size + 1 + 1) (by omega) 0 (.int .i64 R.1)).other (c := u.heap.size + 1 + 1) (by omega) 1 (.slice a5 R.2.1.length c5)
  have NW3 := (NW2.out.set XQ2 (by decide) 0 (.int .i64 R.1)).set (XQ2.set 0 (.int .i64 R.1)) (by decide) 1 (.slice a5 R.2.1.length c5)
  have BW3 := (BW2.setCell (p := ⟨u.heap.size + 1 + 1, 0, none⟩) (show u.heap.size ≤ u.heap.size + 1 + 1 by omega) (.int .i64 R.1)).setCell (p := ⟨u.heap.size + 1 + 1, 1, none⟩) (show u.heap.size ≤ u.heap.size + 1 + 1 by omega) (.slice a5 R.2.1.length c5)
  have z0 := XQ3.cell 0
  have z1 := XQ3.cell 1
  have s0 := XR3.cell 0
  have s1 := XR3.cell 1
  have g0 := XR3.froz 0
  have g1 := XR3.froz 1
  simp only [List.setIfInBounds_toArray, List.set_cons_zero, List.set_cons_succ, List.getElem?_toArray, List.getElem?_cons_zero, List.getElem?_cons_succ] at z0 z1 s0 s1
  clear r0 r1 f50 f51
  go_wp2_with fail
  obtain ⟨y0, y1⟩ := ((Bz.blk XR3).put0' (.int .i64 R.1)).put1' (.slice a5 R.2.1.length c5) |>.cells
  have HE := RetV.box (W := R.1) (c := c5) (Bz.blk XR3) NW3 (Nat.le_refl _) (Nat.le_succ _) BW3
  refine bodyPost_ret (v := .agg #[.int .i64 R.1, .slice a5 R.2.1.length c5]) (by simp [results, Tryz.results96, go_sem, y0, y1]) rfl ?_
  first | exact HE | exact ⟨a5, c5, rfl, (by obtain ⟨a', c', he, h, -⟩ := HE; cases he; exact h), (by obtain ⟨-, -, -, -, h⟩ := HE; exact h.drew)⟩

set_option maxHeartbeats 2000000 in
set_option maxRecDepth 100000 in
theorem l4Sign_any (va k2 wa ka : Option Addr) (vc kc2 wc kc : Nat) (vs kd : List Bw) (vr A B bw : Int) (ws : List Nat) (ks : List Int) (u : World) (x : Bw) (hd : RdW u k2 kd) (hx : kd[0]? = some x) :
    Calls Tryz.prog 96 #[.slice va vs.length vc, nodA ⟨6, vr, A, B, bw, ws, ks⟩ wa ka wc kc, .slice k2 kd.length kc2] u (RetV u (two (wdnR x.wd x.ws A true))) := by
  have hkl := (List.getElem?_eq_some_iff.1 hx).1
  have hla := hd.1
  obtain ⟨-, h | ⟨kb, ko, rfl, hkc⟩⟩ := hd
  · rw [h] at hkl; simp at hkl
  obtain ⟨p0, p1, hxr, -⟩ := hkc 0 x hx
  rw [Nat.zero_mul, Nat.add_zero] at p0 p1
  have HOP := kide (fun v (hv : Below u.heap.size u v) => specWid_any x.wd x.a x.c x.ws A true v (hxr.later hv))
  have hkl' : (0 : Int) < (kd.length : Int) := by omega
  have lK := block_lt_of_cell p0
  obtain ⟨wd, xa, xc, xs⟩ := x
  simp only [nodA, RetB] at *
  clear hkc hx hxr
  generalize hR : wdnR wd xs A true = R at *
  clear hR
  generalize ws.length = wl at *
  generalize ks.length = kl at *
  have XA : Bz (((u.alloc (Obj.cells #[Value.int .i64 6, Value.int .i64 vr, Value.int .i64 A, Value.int .i64 B, Value.int .i64 bw, Value.slice wa wl wc, Value.slice ka kl kc] 116)).alloc (Obj.cells #[Value.int .i64 0, Value.slice none 0 0] 82)).alloc (Obj.cells #[Value.int .i64 0, Value.slice none 0 0] 82)) u.heap.size #[Value.int .i64 6, Value.int .i64 vr, Value.int .i64 A, Value.int .i64 B, Value.int .i64 bw, Value.slice wa wl wc, Value.slice ka kl kc] 116 := ((Bz.new u #[Value.int .i64 6, Value.int .i64 vr, Value.int .i64 A, Value.int .i64 B, Value.int .i64 bw, Value.slice wa wl wc, Value.slice ka kl kc] 116).later ((Below.refl _ _).alloc (Nat.le_refl _) _)).later ((Below.refl _ _).alloc (Nat.le_refl _) _)
  have XR : Bz (((u.alloc (Obj.cells #[Value.int .i64 6, Value.int .i64 vr, Value.int .i64 A, Value.int .i64 B, Value.int .i64 bw, Value.slice wa wl wc, Value.slice ka kl kc] 116)).alloc (Obj.cells #[Value.int .i64 0, Value.slice none 0 0] 82)).alloc (Obj.cells #[Value.int .i64 0, Value.slice none 0 0] 82)) (u.heap.size + 1) #[Value.int .i64 0, Value.slice none 0 0] 82 := by
    have := (Bz.new (u.alloc (Obj.cells #[Value.int .i64 6, Value.int .i64 vr, Value.int .i64 A, Value.int .i64 B, Value.int .i64 bw, Value.slice wa wl wc, Value.slice ka kl kc] 116)) #[Value.int .i64 0, Value.slice none 0 0] 82).later ((Below.refl _ _).alloc (Nat.le_refl _) (Obj.cells #[Value.int .i64 0, Value.slice none 0 0] 82))
    rw [World.size_alloc] at this
    exact this
  have XQ : Bz (((u.alloc (Obj.cells #[Value.int .i64 6, Value.int .i64 vr, Value.int .i64 A, Value.int .i64 B, Value.int .i64 bw, Value.slice wa wl wc, Value.slice ka kl kc] 116)).alloc (Obj.cells #[Value.int .i64 0, Value.slice none 0 0] 82)).alloc (Obj.cells #[Value.int .i64 0, Value.slice none 0 0] 82)) (u.heap.size + 1 + 1) #[Value.int .i64 0, Value.slice none 0 0] 82 := by
    have := Bz.new ((u.alloc (Obj.cells #[Value.int .i64 6, Value.int .i64 vr, Value.int .i64 A, Value.int .i64 B, Value.int .i64 bw, Value.slice wa wl wc, Value.slice ka kl kc] 116)).alloc (Obj.cells #[Value.int .i64 0, Value.slice none 0 0] 82)) #[Value.int .i64 0, Value.slice none 0 0] 82
    simp only [World.size_alloc] at this
    exact this
  have BW : Below u.heap.size u (((u.alloc (Obj.cells #[Value.int .i64 6, Value.int .i64 vr, Value.int .i64 A, Value.int .i64 B, Value.int .i64 bw, Value.slice wa wl wc, Value.slice ka kl kc] 116)).alloc (Obj.cells #[Value.int .i64 0, Value.slice none 0 0] 82)).alloc (Obj.cells #[Value.int .i64 0, Value.slice none 0 0] 82)) := Ba (Ba (Ba (Below.refl _ _) _) _) _
  have d0 := (kcell BW _ _ (block_lt_of_cell p0)).trans p0
  have d1 := (kcell BW _ _ (block_lt_of_cell p1)).trans p1
  have t0 : (((u.alloc (Obj.cells #[Value.int .i64 6, Value.int .i64 vr, Value.int .i64 A, Value.int .i64 B, Value.int .i64 bw, Value.slice wa wl wc, Value.slice ka kl kc] 116)).alloc (Obj.cells #[Value.int .i64 0, Value.slice none 0 0] 82)).alloc (Obj.cells #[Value.int .i64 0, Value.slice none 0 0] 82)).cell? ⟨u.heap.size, 0, none⟩ = some (.int .i64 6) := XA.cell 0
  have d2 : (((u.alloc (Obj.cells #[Value.int .i64 6, Value.int .i64 vr, Value.int .i64 A, Value.int .i64 B, Value.int .i64 bw, Value.slice wa wl wc, Value.slice ka kl kc] 116)).alloc (Obj.cells #[Value.int .i64 0, Value.slice none 0 0] 82)).alloc (Obj.cells #[Value.int .i64 0, Value.slice none 0 0] 82)).cell? ⟨u.heap.size, 2, none⟩ = some (.int .i64 A) := XA.cell 2
  have m0 := Nat.lt_of_lt_of_le lK BW.size
  have m2 := XA.lt
  try simp only [] at lK m0
  clear p0 p1
  go_enter Tryz.func96, Tryz.ntmps96
  go_wp2_with fail
  generalize (((u.alloc (Obj.cells #[Value.int .i64 6, Value.int .i64 vr, Value.int .i64 A, Value.int .i64 B, Value.int .i64 bw, Value.slice wa wl wc, Value.slice ka kl kc] 116)).alloc (Obj.cells #[Value.int .i64 0, Value.slice none 0 0] 82)).alloc (Obj.cells #[Value.int .i64 0, Value.slice none 0 0] 82)) = w1 at *
  go_region_held_law (fun v => v.cell? ⟨kb, ko, none⟩ = some (.int .i64 wd) ∧ v.cell? ⟨kb, ko + 1, none⟩ = some (.slice xa xs.length xc) ∧ v.cell? ⟨u.heap.size, 2, none⟩ = some (.int .i64 A))
    (first | (refine ⟨?_, ?_, ?_⟩ <;> assumption) | (refine ⟨?_, ?_, ?_⟩ <;> ((first | rw [set2_far _ _ _ _ _ (by simp only []; omega)] | rw [drew2_far _ _ _ _ _ (by simp only []; omega)]); assumption)))
    ((go_at_call 128; refine Calls.mono (HOP.out _ ?_) ?_; exact BW.drew; rintro e w2 ⟨a5, c5, rfl, hf2, hb2⟩; replace hb2 := kundrew hb2; have XR2 := XR.later hb2; have XQ2 := XQ.later hb2; have d0x := (kcell hb2 _ _ m0).trans d0; have d1x := (kcell hb2 _ _ m0).trans d1; have d2x := (kcell hb2 _ _ m2).trans d2; have r0 := XQ2.cell 0; have r1 := XQ2.cell 1; have f50 := XQ2.froz 0; have f51 := XQ2.froz 1; simp at r0 r1; have NW2 := kide ((Fresh.nw hf2).mono (lo' := u.heap.size) BW.size)))
  have BW2 := BW.trans (hb2.mono BW.size)
  have XQ3 := (XQ2.set 0 (.int .i64 R.1)).set 1 (.slice a5 R.2.1.length c5)
  have XR3 := (XR2.other (c := u.heap.size + 1 + 1) (by omega) 0 (.int .i64 R.1)).other (c := u.heap.size + 1 + 1) (by omega) 1 (.slice a5 R.2.1.length c5)
  have NW3 := (NW2.out.set XQ2 (by decide) 0 (.int .i64 R.1)).set (XQ2.set 0 (.int .i64 R.1)) (by decide) 1 (.slice a5 R.2.1.length c5)
  have BW3 := (BW2.setCell (p := ⟨u.heap.size + 1 + 1, 0, none⟩) (show u.heap.size ≤ u.heap.size + 1 + 1 by omega) (.int .i64 R.1)).setCell (p := ⟨u.heap.size + 1 + 1, 1, none⟩) (show u.heap.size ≤ u.heap.size + 1 + 1 by omega) (.slice a5 R.2.1.length c5)
  have z0 := XQ3.cell 0
  have z1 := XQ3.cell 1
  have s0 := XR3.cell 0
  have s1 := XR3.cell 1
  have g0 := XR3.froz 0
  have g1 := XR3.froz 1
  simp only [List.setIfInBounds_toArray, List.set_cons_zero, List.set_cons_succ, List.getElem?_toArray, List.getElem?_cons_zero, List.getElem?_cons_succ] at z0 z1 s0 s1
  clear r0 r1 f50 f51
  go_wp2_with fail
  obtain ⟨y0, y1⟩ := ((Bz.blk XR3).put0' (.int .i64 R.1)).put1' (.slice a5 R.2.1.length c5) |>.cells
  have HE := RetV.box (W := R.1) (c := c5) (Bz.blk XR3) NW3 (Nat.le_refl _) (Nat.le_succ _) BW3
  refine bodyPost_ret (v := .agg #[.int .i64 R.1, .slice a5 R.2.1.length c5]) (by simp [results, Tryz.results96, go_sem, y0, y1]) rfl ?_
  first | exact HE | exact ⟨a5, c5, rfl, (by obtain ⟨a', c', he, h, -⟩ := HE; cases he; exact h), (by obtain ⟨-, -, -, -, h⟩ := HE; exact h.drew)⟩

set_option maxHeartbeats 2000000 in
set_option maxRecDepth 100000 in
theorem l4Left_any (va k2 wa ka : Option Addr) (vc kc2 wc kc : Nat) (vs kd : List Bw) (vr A B bw : Int) (ws : List Nat) (ks : List Int) (u : World) (x : Bw) (hd : RdW u k2 kd) (hx : kd[0]? = some x) :
    Calls Tryz.prog 96 #[.slice va vs.length vc, nodA ⟨7, vr, A, B, bw, ws, ks⟩ wa ka wc kc, .slice k2 kd.length kc2] u (RetV u (two (turnR x.wd x.ws A))) := by
  have hkl := (List.getElem?_eq_some_iff.1 hx).1
  have hla := hd.1
  obtain ⟨-, h | ⟨kb, ko, rfl, hkc⟩⟩ := hd
  · rw [h] at hkl; simp at hkl
  obtain ⟨p0, p1, hxr, -⟩ := hkc 0 x hx
  rw [Nat.zero_mul, Nat.add_zero] at p0 p1
  have HOP := kide (fun v (hv : Below u.heap.size u v) => specTurn_any x.wd x.a x.c x.ws A v (hxr.later hv))
  have hkl' : (0 : Int) < (kd.length : Int) := by omega
  have lK := block_lt_of_cell p0
  obtain ⟨wd, xa, xc, xs⟩ := x
  simp only [nodA, RetB] at *
  clear hkc hx hxr
  generalize hR : turnR wd xs A = R at *
  clear hR
  generalize ws.length = wl at *
  generalize ks.length = kl at *
  have XA : Bz (((u.alloc (Obj.cells #[Value.int .i64 7, Value.int .i64 vr, Value.int .i64 A, Value.int .i64 B, Value.int .i64 bw, Value.slice wa wl wc, Value.slice ka kl kc] 116)).alloc (Obj.cells #[Value.int .i64 0, Value.slice none 0 0] 82)).alloc (Obj.cells #[Value.int .i64 0, Value.slice none 0 0] 82)) u.heap.size #[Value.int .i64 7, Value.int .i64 vr, Value.int .i64 A, Value.int .i64 B, Value.int .i64 bw, Value.slice wa wl wc, Value.slice ka kl kc] 116 := ((Bz.new u #[Value.int .i64 7, Value.int .i64 vr, Value.int .i64 A, Value.int .i64 B, Value.int .i64 bw, Value.slice wa wl wc, Value.slice ka kl kc] 116).later ((Below.refl _ _).alloc (Nat.le_refl _) _)).later ((Below.refl _ _).alloc (Nat.le_refl _) _)
  have XR : Bz (((u.alloc (Obj.cells #[Value.int .i64 7, Value.int .i64 vr, Value.int .i64 A, Value.int .i64 B, Value.int .i64 bw, Value.slice wa wl wc, Value.slice ka kl kc] 116)).alloc (Obj.cells #[Value.int .i64 0, Value.slice none 0 0] 82)).alloc (Obj.cells #[Value.int .i64 0, Value.slice none 0 0] 82)) (u.heap.size + 1) #[Value.int .i64 0, Value.slice none 0 0] 82 := by
    have := (Bz.new (u.alloc (Obj.cells #[Value.int .i64 7, Value.int .i64 vr, Value.int .i64 A, Value.int .i64 B, Value.int .i64 bw, Value.slice wa wl wc, Value.slice ka kl kc] 116)) #[Value.int .i64 0, Value.slice none 0 0] 82).later ((Below.refl _ _).alloc (Nat.le_refl _) (Obj.cells #[Value.int .i64 0, Value.slice none 0 0] 82))
    rw [World.size_alloc] at this
    exact this
  have XQ : Bz (((u.alloc (Obj.cells #[Value.int .i64 7, Value.int .i64 vr, Value.int .i64 A, Value.int .i64 B, Value.int .i64 bw, Value.slice wa wl wc, Value.slice ka kl kc] 116)).alloc (Obj.cells #[Value.int .i64 0, Value.slice none 0 0] 82)).alloc (Obj.cells #[Value.int .i64 0, Value.slice none 0 0] 82)) (u.heap.size + 1 + 1) #[Value.int .i64 0, Value.slice none 0 0] 82 := by
    have := Bz.new ((u.alloc (Obj.cells #[Value.int .i64 7, Value.int .i64 vr, Value.int .i64 A, Value.int .i64 B, Value.int .i64 bw, Value.slice wa wl wc, Value.slice ka kl kc] 116)).alloc (Obj.cells #[Value.int .i64 0, Value.slice none 0 0] 82)) #[Value.int .i64 0, Value.slice none 0 0] 82
    simp only [World.size_alloc] at this
    exact this
  have BW : Below u.heap.size u (((u.alloc (Obj.cells #[Value.int .i64 7, Value.int .i64 vr, Value.int .i64 A, Value.int .i64 B, Value.int .i64 bw, Value.slice wa wl wc, Value.slice ka kl kc] 116)).alloc (Obj.cells #[Value.int .i64 0, Value.slice none 0 0] 82)).alloc (Obj.cells #[Value.int .i64 0, Value.slice none 0 0] 82)) := Ba (Ba (Ba (Below.refl _ _) _) _) _
  have d0 := (kcell BW _ _ (block_lt_of_cell p0)).trans p0
  have d1 := (kcell BW _ _ (block_lt_of_cell p1)).trans p1
  have t0 : (((u.alloc (Obj.cells #[Value.int .i64 7, Value.int .i64 vr, Value.int .i64 A, Value.int .i64 B, Value.int .i64 bw, Value.slice wa wl wc, Value.slice ka kl kc] 116)).alloc (Obj.cells #[Value.int .i64 0, Value.slice none 0 0] 82)).alloc (Obj.cells #[Value.int .i64 0, Value.slice none 0 0] 82)).cell? ⟨u.heap.size, 0, none⟩ = some (.int .i64 7) := XA.cell 0
  have d2 : (((u.alloc (Obj.cells #[Value.int .i64 7, Value.int .i64 vr, Value.int .i64 A, Value.int .i64 B, Value.int .i64 bw, Value.slice wa wl wc, Value.slice ka kl kc] 116)).alloc (Obj.cells #[Value.int .i64 0, Value.slice none 0 0] 82)).alloc (Obj.cells #[Value.int .i64 0, Value.slice none 0 0] 82)).cell? ⟨u.heap.size, 2, none⟩ = some (.int .i64 A) := XA.cell 2
  have m0 := Nat.lt_of_lt_of_le lK BW.size
  have m2 := XA.lt
  try simp only [] at lK m0
  clear p0 p1
  go_enter Tryz.func96, Tryz.ntmps96
  go_wp2_with fail
  generalize (((u.alloc (Obj.cells #[Value.int .i64 7, Value.int .i64 vr, Value.int .i64 A, Value.int .i64 B, Value.int .i64 bw, Value.slice wa wl wc, Value.slice ka kl kc] 116)).alloc (Obj.cells #[Value.int .i64 0, Value.slice none 0 0] 82)).alloc (Obj.cells #[Value.int .i64 0, Value.slice none 0 0] 82)) = w1 at *
  go_region_held_law (fun v => v.cell? ⟨kb, ko, none⟩ = some (.int .i64 wd) ∧ v.cell? ⟨kb, ko + 1, none⟩ = some (.slice xa xs.length xc) ∧ v.cell? ⟨u.heap.size, 2, none⟩ = some (.int .i64 A))
    (first | (refine ⟨?_, ?_, ?_⟩ <;> assumption) | (refine ⟨?_, ?_, ?_⟩ <;> ((first | rw [set2_far _ _ _ _ _ (by simp only []; omega)] | rw [drew2_far _ _ _ _ _ (by simp only []; omega)]); assumption)))
    ((go_at_call 129; refine Calls.mono (HOP.out _ ?_) ?_; exact BW.drew; rintro e w2 ⟨a5, c5, rfl, hf2, hb2⟩; replace hb2 := kundrew hb2; have XR2 := XR.later hb2; have XQ2 := XQ.later hb2; have d0x := (kcell hb2 _ _ m0).trans d0; have d1x := (kcell hb2 _ _ m0).trans d1; have d2x := (kcell hb2 _ _ m2).trans d2; have r0 := XQ2.cell 0; have r1 := XQ2.cell 1; have f50 := XQ2.froz 0; have f51 := XQ2.froz 1; simp at r0 r1; have NW2 := kide ((Fresh.nw hf2).mono (lo' := u.heap.size) BW.size)))
  have BW2 := BW.trans (hb2.mono BW.size)
  have XQ3 := (XQ2.set 0 (.int .i64 R.1)).set 1 (.slice a5 R.2.1.length c5)
  have XR3 := (XR2.other (c := u.heap.size + 1 + 1) (by omega) 0 (.int .i64 R.1)).other (c := u.heap.size + 1 + 1) (by omega) 1 (.slice a5 R.2.1.length c5)
  have NW3 := (NW2.out.set XQ2 (by decide) 0 (.int .i64 R.1)).set (XQ2.set 0 (.int .i64 R.1)) (by decide) 1 (.slice a5 R.2.1.length c5)
  have BW3 := (BW2.setCell (p := ⟨u.heap.size + 1 + 1, 0, none⟩) (show u.heap.size ≤ u.heap.size + 1 + 1 by omega) (.int .i64 R.1)).setCell (p := ⟨u.heap.size + 1 + 1, 1, none⟩) (show u.heap.size ≤ u.heap.size + 1 + 1 by omega) (.slice a5 R.2.1.length c5)
  have z0 := XQ3.cell 0
  have z1 := XQ3.cell 1
  have s0 := XR3.cell 0
  have s1 := XR3.cell 1
  have g0 := XR3.froz 0
  have g1 := XR3.froz 1
  simp only [List.setIfInBounds_toArray, List.set_cons_zero, List.set_cons_succ, List.getElem?_toArray, List.getElem?_cons_zero, List.getElem?_cons_succ] at z0 z1 s0 s1
  clear r0 r1 f50 f51
  go_wp2_with fail
  obtain ⟨y0, y1⟩ := ((Bz.blk XR3).put0' (.int .i64 R.1)).put1' (.slice a5 R.2.1.length c5) |>.cells
  have HE := RetV.box (W := R.1) (c := c5) (Bz.blk XR3) NW3 (Nat.le_refl _) (Nat.le_succ _) BW3
  refine bodyPost_ret (v := .agg #[.int .i64 R.1, .slice a5 R.2.1.length c5]) (by simp [results, Tryz.results96, go_sem, y0, y1]) rfl ?_
  first | exact HE | exact ⟨a5, c5, rfl, (by obtain ⟨a', c', he, h, -⟩ := HE; cases he; exact h), (by obtain ⟨-, -, -, -, h⟩ := HE; exact h.drew)⟩

set_option maxHeartbeats 2000000 in
set_option maxRecDepth 100000 in
theorem l4Rep_any (va k2 wa ka : Option Addr) (vc kc2 wc kc : Nat) (vs kd : List Bw) (vr A B bw : Int) (ws : List Nat) (ks : List Int) (u : World) (x : Bw) (hd : RdW u k2 kd) (hx : kd[0]? = some x) :
    Calls Tryz.prog 96 #[.slice va vs.length vc, nodA ⟨9, vr, A, B, bw, ws, ks⟩ wa ka wc kc, .slice k2 kd.length kc2] u (RetV u (two (repR x.wd x.ws A))) := by
  have hkl := (List.getElem?_eq_some_iff.1 hx).1
  have hla := hd.1
  obtain ⟨-, h | ⟨kb, ko, rfl, hkc⟩⟩ := hd
  · rw [h] at hkl; simp at hkl
  obtain ⟨p0, p1, hxr, -⟩ := hkc 0 x hx
  rw [Nat.zero_mul, Nat.add_zero] at p0 p1
  have HOP := kide (fun v (hv : Below u.heap.size u v) => specRep_any x.wd x.a x.c x.ws A v (hxr.later hv))
  have hkl' : (0 : Int) < (kd.length : Int) := by omega
  have lK := block_lt_of_cell p0
  obtain ⟨wd, xa, xc, xs⟩ := x
  simp only [nodA, RetB] at *
  clear hkc hx hxr
  generalize hR : repR wd xs A = R at *
  clear hR
  generalize ws.length = wl at *
  generalize ks.length = kl at *
  have XA : Bz (((u.alloc (Obj.cells #[Value.int .i64 9, Value.int .i64 vr, Value.int .i64 A, Value.int .i64 B, Value.int .i64 bw, Value.slice wa wl wc, Value.slice ka kl kc] 116)).alloc (Obj.cells #[Value.int .i64 0, Value.slice none 0 0] 82)).alloc (Obj.cells #[Value.int .i64 0, Value.slice none 0 0] 82)) u.heap.size #[Value.int .i64 9, Value.int .i64 vr, Value.int .i64 A, Value.int .i64 B, Value.int .i64 bw, Value.slice wa wl wc, Value.slice ka kl kc] 116 := ((Bz.new u #[Value.int .i64 9, Value.int .i64 vr, Value.int .i64 A, Value.int .i64 B, Value.int .i64 bw, Value.slice wa wl wc, Value.slice ka kl kc] 116).later ((Below.refl _ _).alloc (Nat.le_refl _) _)).later ((Below.refl _ _).alloc (Nat.le_refl _) _)
  have XR : Bz (((u.alloc (Obj.cells #[Value.int .i64 9, Value.int .i64 vr, Value.int .i64 A, Value.int .i64 B, Value.int .i64 bw, Value.slice wa wl wc, Value.slice ka kl kc] 116)).alloc (Obj.cells #[Value.int .i64 0, Value.slice none 0 0] 82)).alloc (Obj.cells #[Value.int .i64 0, Value.slice none 0 0] 82)) (u.heap.size + 1) #[Value.int .i64 0, Value.slice none 0 0] 82 := by
    have := (Bz.new (u.alloc (Obj.cells #[Value.int .i64 9, Value.int .i64 vr, Value.int .i64 A, Value.int .i64 B, Value.int .i64 bw, Value.slice wa wl wc, Value.slice ka kl kc] 116)) #[Value.int .i64 0, Value.slice none 0 0] 82).later ((Below.refl _ _).alloc (Nat.le_refl _) (Obj.cells #[Value.int .i64 0, Value.slice none 0 0] 82))
    rw [World.size_alloc] at this
    exact this
  have XQ : Bz (((u.alloc (Obj.cells #[Value.int .i64 9, Value.int .i64 vr, Value.int .i64 A, Value.int .i64 B, Value.int .i64 bw, Value.slice wa wl wc, Value.slice ka kl kc] 116)).alloc (Obj.cells #[Value.int .i64 0, Value.slice none 0 0] 82)).alloc (Obj.cells #[Value.int .i64 0, Value.slice none 0 0] 82)) (u.heap.size + 1 + 1) #[Value.int .i64 0, Value.slice none 0 0] 82 := by
    have := Bz.new ((u.alloc (Obj.cells #[Value.int .i64 9, Value.int .i64 vr, Value.int .i64 A, Value.int .i64 B, Value.int .i64 bw, Value.slice wa wl wc, Value.slice ka kl kc] 116)).alloc (Obj.cells #[Value.int .i64 0, Value.slice none 0 0] 82)) #[Value.int .i64 0, Value.slice none 0 0] 82
    simp only [World.size_alloc] at this
    exact this
  have BW : Below u.heap.size u (((u.alloc (Obj.cells #[Value.int .i64 9, Value.int .i64 vr, Value.int .i64 A, Value.int .i64 B, Value.int .i64 bw, Value.slice wa wl wc, Value.slice ka kl kc] 116)).alloc (Obj.cells #[Value.int .i64 0, Value.slice none 0 0] 82)).alloc (Obj.cells #[Value.int .i64 0, Value.slice none 0 0] 82)) := Ba (Ba (Ba (Below.refl _ _) _) _) _
  have d0 := (kcell BW _ _ (block_lt_of_cell p0)).trans p0
  have d1 := (kcell BW _ _ (block_lt_of_cell p1)).trans p1
  have t0 : (((u.alloc (Obj.cells #[Value.int .i64 9, Value.int .i64 vr, Value.int .i64 A, Value.int .i64 B, Value.int .i64 bw, Value.slice wa wl wc, Value.slice ka kl kc] 116)).alloc (Obj.cells #[Value.int .i64 0, Value.slice none 0 0] 82)).alloc (Obj.cells #[Value.int .i64 0, Value.slice none 0 0] 82)).cell? ⟨u.heap.size, 0, none⟩ = some (.int .i64 9) := XA.cell 0
  have d2 : (((u.alloc (Obj.cells #[Value.int .i64 9, Value.int .i64 vr, Value.int .i64 A, Value.int .i64 B, Value.int .i64 bw, Value.slice wa wl wc, Value.slice ka kl kc] 116)).alloc (Obj.cells #[Value.int .i64 0, Value.slice none 0 0] 82)).alloc (Obj.cells #[Value.int .i64 0, Value.slice none 0 0] 82)).cell? ⟨u.heap.size, 2, none⟩ = some (.int .i64 A) := XA.cell 2
  have m0 := Nat.lt_of_lt_of_le lK BW.size
  have m2 := XA.lt
  try simp only [] at lK m0
  clear p0 p1
  go_enter Tryz.func96, Tryz.ntmps96
  go_wp2_with fail
  generalize (((u.alloc (Obj.cells #[Value.int .i64 9, Value.int .i64 vr, Value.int .i64 A, Value.int .i64 B, Value.int .i64 bw, Value.slice wa wl wc, Value.slice ka kl kc] 116)).alloc (Obj.cells #[Value.int .i64 0, Value.slice none 0 0] 82)).alloc (Obj.cells #[Value.int .i64 0, Value.slice none 0 0] 82)) = w1 at *
  go_region_held_law (fun v => v.cell? ⟨kb, ko, none⟩ = some (.int .i64 wd) ∧ v.cell? ⟨kb, ko + 1, none⟩ = some (.slice xa xs.length xc) ∧ v.cell? ⟨u.heap.size, 2, none⟩ = some (.int .i64 A))
    (first | (refine ⟨?_, ?_, ?_⟩ <;> assumption) | (refine ⟨?_, ?_, ?_⟩ <;> ((first | rw [set2_far _ _ _ _ _ (by simp only []; omega)] | rw [drew2_far _ _ _ _ _ (by simp only []; omega)]); assumption)))
    ((go_at_call 130; refine Calls.mono (HOP.out _ ?_) ?_; exact BW.drew; rintro e w2 ⟨a5, c5, rfl, hf2, hb2⟩; replace hb2 := kundrew hb2; have XR2 := XR.later hb2; have XQ2 := XQ.later hb2; have d0x := (kcell hb2 _ _ m0).trans d0; have d1x := (kcell hb2 _ _ m0).trans d1; have d2x := (kcell hb2 _ _ m2).trans d2; have r0 := XQ2.cell 0; have r1 := XQ2.cell 1; have f50 := XQ2.froz 0; have f51 := XQ2.froz 1; simp at r0 r1; have NW2 := kide ((Fresh.nw hf2).mono (lo' := u.heap.size) BW.size)))
  have BW2 := BW.trans (hb2.mono BW.size)
  have XQ3 := (XQ2.set 0 (.int .i64 R.1)).set 1 (.slice a5 R.2.1.length c5)
  have XR3 := (XR2.other (c := u.heap.size + 1 + 1) (by omega) 0 (.int .i64 R.1)).other (c := u.heap.size + 1 + 1) (by omega) 1 (.slice a5 R.2.1.length c5)
  have NW3 := (NW2.out.set XQ2 (by decide) 0 (.int .i64 R.1)).set (XQ2.set 0 (.int .i64 R.1)) (by decide) 1 (.slice a5 R.2.1.length c5)
  have BW3 := (BW2.setCell (p := ⟨u.heap.size + 1 + 1, 0, none⟩) (show u.heap.size ≤ u.heap.size + 1 + 1 by omega) (.int .i64 R.1)).setCell (p := ⟨u.heap.size + 1 + 1, 1, none⟩) (show u.heap.size ≤ u.heap.size + 1 + 1 by omega) (.slice a5 R.2.1.length c5)
  have z0 := XQ3.cell 0
  have z1 := XQ3.cell 1
  have s0 := XR3.cell 0
  have s1 := XR3.cell 1
  have g0 := XR3.froz 0
  have g1 := XR3.froz 1
  simp only [List.setIfInBounds_toArray, List.set_cons_zero, List.set_cons_succ, List.getElem?_toArray, List.getElem?_cons_zero, List.getElem?_cons_succ] at z0 z1 s0 s1
  clear r0 r1 f50 f51
  go_wp2_with fail
  obtain ⟨y0, y1⟩ := ((Bz.blk XR3).put0' (.int .i64 R.1)).put1' (.slice a5 R.2.1.length c5) |>.cells
  have HE := RetV.box (W := R.1) (c := c5) (Bz.blk XR3) NW3 (Nat.le_refl _) (Nat.le_succ _) BW3
  refine bodyPost_ret (v := .agg #[.int .i64 R.1, .slice a5 R.2.1.length c5]) (by simp [results, Tryz.results96, go_sem, y0, y1]) rfl ?_
  first | exact HE | exact ⟨a5, c5, rfl, (by obtain ⟨a', c', he, h, -⟩ := HE; cases he; exact h), (by obtain ⟨-, -, -, -, h⟩ := HE; exact h.drew)⟩

set_option maxHeartbeats 2000000 in
set_option maxRecDepth 100000 in
theorem l4Right_any (va k2 wa ka : Option Addr) (vc kc2 wc kc : Nat) (vs kd : List Bw) (vr A B bw : Int) (ws : List Nat) (ks : List Int) (u : World) (x : Bw) (hd : RdW u k2 kd) (hx : kd[0]? = some x) (hok : okW x.ct) (ha : 0 ≤ A ∧ A ≤ 4096) :
    Calls Tryz.prog 96 #[.slice va vs.length vc, nodA ⟨8, vr, A, B, bw, ws, ks⟩ wa ka wc kc, .slice k2 kd.length kc2] u (RetV u (two (turnR x.wd x.ws ((x.wd - A % x.wd) % x.wd)))) := by
  have hkl := (List.getElem?_eq_some_iff.1 hx).1
  have hla := hd.1
  obtain ⟨-, h | ⟨kb, ko, rfl, hkc⟩⟩ := hd
  · rw [h] at hkl; simp at hkl
  obtain ⟨p0, p1, hxr, -⟩ := hkc 0 x hx
  rw [Nat.zero_mul, Nat.add_zero] at p0 p1
  have HOP := kide (fun v (hv : Below u.heap.size u v) => specTurn_any x.wd x.a x.c x.ws ((x.wd - A % x.wd) % x.wd) v (hxr.later hv))
  have hkl' : (0 : Int) < (kd.length : Int) := by omega
  have lK := block_lt_of_cell p0
  obtain ⟨wd, xa, xc, xs⟩ := x
  simp only [nodA, RetB] at *
  have hw1 := right_W hok.1
  try simp only [Bw.ct] at hw1
  have hm1 := Int.emod_nonneg A (show wd ≠ 0 by omega)
  have hm2 := Int.emod_lt_of_pos A (show 0 < wd by omega)
  obtain ⟨r, hr⟩ := Int.eq_ofNat_of_zero_le hm1
  obtain ⟨q, hq⟩ := Int.eq_ofNat_of_zero_le (show 0 ≤ wd - A % wd by omega)
  have hn1 := Int.emod_nonneg (q : Int) (show wd ≠ 0 by omega)
  have hn2 := Int.emod_lt_of_pos (q : Int) (show 0 < wd by omega)
  obtain ⟨s, hs⟩ := Int.eq_ofNat_of_zero_le hn1
  rw [hq, hs] at HOP ⊢
  rw [hr] at hq
  have hwz : ¬ wd = 0 := by omega
  have htm : A.tmod wd = (r : Int) := by rw [Int.tmod_eq_emod_of_nonneg ha.1]; exact hr
  have htn : (q : Int).tmod wd = (s : Int) := by rw [Int.tmod_eq_emod_of_nonneg (by omega)]; exact hs
  have wr1 : IntKind.i64.wrap (r : Int) = (r : Int) := by rw [IntKind.wrap_i64]; omega
  have wq1 : IntKind.i64.wrap (q : Int) = (q : Int) := by rw [IntKind.wrap_i64]; omega
  have ws1 : IntKind.i64.wrap (s : Int) = (s : Int) := by rw [IntKind.wrap_i64]; omega
  clear hok hm1 hm2 hn1 hn2
  clear hkc hx hxr
  generalize hR : turnR wd xs (s : Int) = R at *
  clear hR
  generalize ws.length = wl at *
  generalize ks.length = kl at *
  have XA : Bz (((u.alloc (Obj.cells #[Value.int .i64 8, Value.int .i64 vr, Value.int .i64 A, Value.int .i64 B, Value.int .i64 bw, Value.slice wa wl wc, Value.slice ka kl kc] 116)).alloc (Obj.cells #[Value.int .i64 0, Value.slice none 0 0] 82)).alloc (Obj.cells #[Value.int .i64 0, Value.slice none 0 0] 82)) u.heap.size #[Value.int .i64 8, Value.int .i64 vr, Value.int .i64 A, Value.int .i64 B, Value.int .i64 bw, Value.slice wa wl wc, Value.slice ka kl kc] 116 := ((Bz.new u #[Value.int .i64 8, Value.int .i64 vr, Value.int .i64 A, Value.int .i64 B, Value.int .i64 bw, Value.slice wa wl wc, Value.slice ka kl kc] 116).later ((Below.refl _ _).alloc (Nat.le_refl _) _)).later ((Below.refl _ _).alloc (Nat.le_refl _) _)
  have XR : Bz (((u.alloc (Obj.cells #[Value.int .i64 8, Value.int .i64 vr, Value.int .i64 A, Value.int .i64 B, Value.int .i64 bw, Value.slice wa wl wc, Value.slice ka kl kc] 116)).alloc (Obj.cells #[Value.int .i64 0, Value.slice none 0 0] 82)).alloc (Obj.cells #[Value.int .i64 0, Value.slice none 0 0] 82)) (u.heap.size + 1) #[Value.int .i64 0, Value.slice none 0 0] 82 := by
    have := (Bz.new (u.alloc (Obj.cells #[Value.int .i64 8, Value.int .i64 vr, Value.int .i64 A, Value.int .i64 B, Value.int .i64 bw, Value.slice wa wl wc, Value.slice ka kl kc] 116)) #[Value.int .i64 0, Value.slice none 0 0] 82).later ((Below.refl _ _).alloc (Nat.le_refl _) (Obj.cells #[Value.int .i64 0, Value.slice none 0 0] 82))
    rw [World.size_alloc] at this
    exact this
  have XQ : Bz (((u.alloc (Obj.cells #[Value.int .i64 8, Value.int .i64 vr, Value.int .i64 A, Value.int .i64 B, Value.int .i64 bw, Value.slice wa wl wc, Value.slice ka kl kc] 116)).alloc (Obj.cells #[Value.int .i64 0, Value.slice none 0 0] 82)).alloc (Obj.cells #[Value.int .i64 0, Value.slice none 0 0] 82)) (u.heap.size + 1 + 1) #[Value.int .i64 0, Value.slice none 0 0] 82 := by
    have := Bz.new ((u.alloc (Obj.cells #[Value.int .i64 8, Value.int .i64 vr, Value.int .i64 A, Value.int .i64 B, Value.int .i64 bw, Value.slice wa wl wc, Value.slice ka kl kc] 116)).alloc (Obj.cells #[Value.int .i64 0, Value.slice none 0 0] 82)) #[Value.int .i64 0, Value.slice none 0 0] 82
    simp only [World.size_alloc] at this
    exact this
  have BW : Below u.heap.size u (((u.alloc (Obj.cells #[Value.int .i64 8, Value.int .i64 vr, Value.int .i64 A, Value.int .i64 B, Value.int .i64 bw, Value.slice wa wl wc, Value.slice ka kl kc] 116)).alloc (Obj.cells #[Value.int .i64 0, Value.slice none 0 0] 82)).alloc (Obj.cells #[Value.int .i64 0, Value.slice none 0 0] 82)) := Ba (Ba (Ba (Below.refl _ _) _) _) _
  have d0 := (kcell BW _ _ (block_lt_of_cell p0)).trans p0
  have d1 := (kcell BW _ _ (block_lt_of_cell p1)).trans p1
  have t0 : (((u.alloc (Obj.cells #[Value.int .i64 8, Value.int .i64 vr, Value.int .i64 A, Value.int .i64 B, Value.int .i64 bw, Value.slice wa wl wc, Value.slice ka kl kc] 116)).alloc (Obj.cells #[Value.int .i64 0, Value.slice none 0 0] 82)).alloc (Obj.cells #[Value.int .i64 0, Value.slice none 0 0] 82)).cell? ⟨u.heap.size, 0, none⟩ = some (.int .i64 8) := XA.cell 0
  have d2 : (((u.alloc (Obj.cells #[Value.int .i64 8, Value.int .i64 vr, Value.int .i64 A, Value.int .i64 B, Value.int .i64 bw, Value.slice wa wl wc, Value.slice ka kl kc] 116)).alloc (Obj.cells #[Value.int .i64 0, Value.slice none 0 0] 82)).alloc (Obj.cells #[Value.int .i64 0, Value.slice none 0 0] 82)).cell? ⟨u.heap.size, 2, none⟩ = some (.int .i64 A) := XA.cell 2
  have m0 := Nat.lt_of_lt_of_le lK BW.size
  have m2 := XA.lt
  try simp only [] at lK m0
  clear p0 p1
  go_enter Tryz.func96, Tryz.ntmps96
  go_wp2_with fail
  generalize (((u.alloc (Obj.cells #[Value.int .i64 8, Value.int .i64 vr, Value.int .i64 A, Value.int .i64 B, Value.int .i64 bw, Value.slice wa wl wc, Value.slice ka kl kc] 116)).alloc (Obj.cells #[Value.int .i64 0, Value.slice none 0 0] 82)).alloc (Obj.cells #[Value.int .i64 0, Value.slice none 0 0] 82)) = w1 at *
  go_region_held_law (fun v => v.cell? ⟨kb, ko, none⟩ = some (.int .i64 wd) ∧ v.cell? ⟨kb, ko + 1, none⟩ = some (.slice xa xs.length xc) ∧ v.cell? ⟨u.heap.size, 2, none⟩ = some (.int .i64 A))
    (first | (refine ⟨?_, ?_, ?_⟩ <;> assumption) | (refine ⟨?_, ?_, ?_⟩ <;> ((first | rw [set2_far _ _ _ _ _ (by simp only []; omega)] | rw [drew2_far _ _ _ _ _ (by simp only []; omega)]); assumption)))
    ((go_at_call 129; refine Calls.mono (HOP.out _ ?_) ?_; exact BW.drew; rintro e w2 ⟨a5, c5, rfl, hf2, hb2⟩; replace hb2 := kundrew hb2; have XR2 := XR.later hb2; have XQ2 := XQ.later hb2; have d0x := (kcell hb2 _ _ m0).trans d0; have d1x := (kcell hb2 _ _ m0).trans d1; have d2x := (kcell hb2 _ _ m2).trans d2; have r0 := XQ2.cell 0; have r1 := XQ2.cell 1; have f50 := XQ2.froz 0; have f51 := XQ2.froz 1; simp at r0 r1; have NW2 := kide ((Fresh.nw hf2).mono (lo' := u.heap.size) BW.size)))
  have BW2 := BW.trans (hb2.mono BW.size)
  have XQ3 := (XQ2.set 0 (.int .i64 R.1)).set 1 (.slice a5 R.2.1.length c5)
  have XR3 := (XR2.other (c := u.heap.size + 1 + 1) (by omega) 0 (.int .i64 R.1)).other (c := u.heap.size + 1 + 1) (by omega) 1 (.slice a5 R.2.1.length c5)
  have NW3 := (NW2.out.set XQ2 (by decide) 0 (.int .i64 R.1)).set (XQ2.set 0 (.int .i64 R.1)) (by decide) 1 (.slice a5 R.2.1.length c5)
  have BW3 := (BW2.setCell (p := ⟨u.heap.size + 1 + 1, 0, none⟩) (show u.heap.size ≤ u.heap.size + 1 + 1 by omega) (.int .i64 R.1)).setCell (p := ⟨u.heap.size + 1 + 1, 1, none⟩) (show u.heap.size ≤ u.heap.size + 1 + 1 by omega) (.slice a5 R.2.1.length c5)
  have z0 := XQ3.cell 0
  have z1 := XQ3.cell 1
  have s0 := XR3.cell 0
  have s1 := XR3.cell 1
  have g0 := XR3.froz 0
  have g1 := XR3.froz 1
  simp only [List.setIfInBounds_toArray, List.set_cons_zero, List.set_cons_succ, List.getElem?_toArray, List.getElem?_cons_zero, List.getElem?_cons_succ] at z0 z1 s0 s1
  clear r0 r1 f50 f51
  go_wp2_with fail
  obtain ⟨y0, y1⟩ := ((Bz.blk XR3).put0' (.int .i64 R.1)).put1' (.slice a5 R.2.1.length c5) |>.cells
  have HE := RetV.box (W := R.1) (c := c5) (Bz.blk XR3) NW3 (Nat.le_refl _) (Nat.le_succ _) BW3
  refine bodyPost_ret (v := .agg #[.int .i64 R.1, .slice a5 R.2.1.length c5]) (by simp [results, Tryz.results96, go_sem, y0, y1]) rfl ?_
  first | exact HE | exact ⟨a5, c5, rfl, (by obtain ⟨a', c', he, h, -⟩ := HE; cases he; exact h), (by obtain ⟨-, -, -, -, h⟩ := HE; exact h.drew)⟩

end Go.Proofs.YtllojnloldhghaaGreatDoor

/- What the specification's l4Node answers of a row of Kids. -/
namespace Go.Proofs.YtllojnloldhghaaGreatDoor
set_option linter.unusedVariables false
set_option linter.unusedSimpArgs false
open Go.RowKit

set_option maxHeartbeats 4000000 in
set_option maxRecDepth 100000 in
theorem l4Cat_any (va k2 wa ka : Option Addr) (vc kc2 wc kc : Nat) (vs kd : List Bw) (vr A B bw : Int) (ws : List Nat) (ks : List Int) (u : World) (hd : RdW u k2 kd) (hok : ∀ x ∈ kd.map Bw.ct, okW x) (hm : 2 ≤ kd.length) (hf : sumV (kd.map Bw.ct) ≤ 4096) :
    Calls Tryz.prog 96 #[.slice va vs.length vc, nodA ⟨3, vr, A, B, bw, ws, ks⟩ wa ka wc kc, .slice k2 kd.length kc2] u (RetV u (catS (kd.map Bw.ct))) := by
  have hla := hd.1
  obtain ⟨-, h | ⟨kb, ko, rfl, hkc⟩⟩ := hd
  · rw [h] at hm; simp at hm
  have HKC := kide hkc
  have HOK := kide hok
  have HF := kide hf
  have hx0 : kd[0]? = some kd[0] := List.getElem?_eq_getElem (by omega)
  obtain ⟨x0, hx0e⟩ : ∃ x, kd[0] = x := ⟨_, rfl⟩
  rw [hx0e] at hx0
  have HX0 := kide hx0
  obtain ⟨p0, p1, pr0, -⟩ := hkc 0 x0 hx0
  rw [Nat.zero_mul, Nat.add_zero] at p0 p1
  have HP0 := kide pr0
  obtain ⟨kl, hkl⟩ : ∃ m, kd.length = m := ⟨_, rfl⟩
  have HKL := kide hkl
  rw [hkl] at hm hla ⊢
  have hkl' : (0 : Int) < (kl : Int) := by omega
  simp only [nodA] at *
  clear hkc hx0 hx0e pr0 hok hf hkl
  generalize ws.length = wl at *
  generalize ks.length = kl2 at *
  have XA : Bz (((u.alloc (Obj.cells #[Value.int .i64 3, Value.int .i64 vr, Value.int .i64 A, Value.int .i64 B, Value.int .i64 bw, Value.slice wa wl wc, Value.slice ka kl2 kc] 116)).alloc (Obj.cells #[Value.int .i64 0, Value.slice none 0 0] 82)).alloc (Obj.cells #[Value.int .i64 0, Value.slice none 0 0] 82)) u.heap.size #[Value.int .i64 3, Value.int .i64 vr, Value.int .i64 A, Value.int .i64 B, Value.int .i64 bw, Value.slice wa wl wc, Value.slice ka kl2 kc] 116 := ((Bz.new u #[Value.int .i64 3, Value.int .i64 vr, Value.int .i64 A, Value.int .i64 B, Value.int .i64 bw, Value.slice wa wl wc, Value.slice ka kl2 kc] 116).later ((Below.refl _ _).alloc (Nat.le_refl _) _)).later ((Below.refl _ _).alloc (Nat.le_refl _) _)
  have XR : Bz (((u.alloc (Obj.cells #[Value.int .i64 3, Value.int .i64 vr, Value.int .i64 A, Value.int .i64 B, Value.int .i64 bw, Value.slice wa wl wc, Value.slice ka kl2 kc] 116)).alloc (Obj.cells #[Value.int .i64 0, Value.slice none 0 0] 82)).alloc (Obj.cells #[Value.int .i64 0, Value.slice none 0 0] 82)) (u.heap.size + 1) #[Value.int .i64 0, Value.slice none 0 0] 82 := by
    have := (Bz.new (u.alloc (Obj.cells #[Value.int .i64 3, Value.int .i64 vr, Value.int .i64 A, Value.int .i64 B, Value.int .i64 bw, Value.slice wa wl wc, Value.slice ka kl2 kc] 116)) #[Value.int .i64 0, Value.slice none 0 0] 82).later ((Below.refl _ _).alloc (Nat.le_refl _) (Obj.cells #[Value.int .i64 0, Value.slice none 0 0] 82))
    rw [World.size_alloc] at this
    exact this
  have XQ : Bz (((u.alloc (Obj.cells #[Value.int .i64 3, Value.int .i64 vr, Value.int .i64 A, Value.int .i64 B, Value.int .i64 bw, Value.slice wa wl wc, Value.slice ka kl2 kc] 116)).alloc (Obj.cells #[Value.int .i64 0, Value.slice none 0 0] 82)).alloc (Obj.cells #[Value.int .i64 0, Value.slice none 0 0] 82)) (u.heap.size + 1 + 1) #[Value.int .i64 0, Value.slice none 0 0] 82 := by
    have := Bz.new ((u.alloc (Obj.cells #[Value.int .i64 3, Value.int .i64 vr, Value.int .i64 A, Value.int .i64 B, Value.int .i64 bw, Value.slice wa wl wc, Value.slice ka kl2 kc] 116)).alloc (Obj.cells #[Value.int .i64 0, Value.slice none 0 0] 82)) #[Value.int .i64 0, Value.slice none 0 0] 82
    simp only [World.size_alloc] at this
    exact this
  have BW : Below u.heap.size u (((u.alloc (Obj.cells #[Value.int .i64 3, Value.int .i64 vr, Value.int .i64 A, Value.int .i64 B, Value.int .i64 bw, Value.slice wa wl wc, Value.slice ka kl2 kc] 116)).alloc (Obj.cells #[Value.int .i64 0, Value.slice none 0 0] 82)).alloc (Obj.cells #[Value.int .i64 0, Value.slice none 0 0] 82)) := Ba (Ba (Ba (Below.refl _ _) _) _) _
  have d0 := (kcell BW _ _ (block_lt_of_cell p0)).trans p0
  have d1 := (kcell BW _ _ (block_lt_of_cell p1)).trans p1
  have t0 : (((u.alloc (Obj.cells #[Value.int .i64 3, Value.int .i64 vr, Value.int .i64 A, Value.int .i64 B, Value.int .i64 bw, Value.slice wa wl wc, Value.slice ka kl2 kc] 116)).alloc (Obj.cells #[Value.int .i64 0, Value.slice none 0 0] 82)).alloc (Obj.cells #[Value.int .i64 0, Value.slice none 0 0] 82)).cell? ⟨u.heap.size, 0, none⟩ = some (.int .i64 3) := XA.cell 0
  have XR4 : Bz (((u.alloc (Obj.cells #[Value.int .i64 3, Value.int .i64 vr, Value.int .i64 A, Value.int .i64 B, Value.int .i64 bw, Value.slice wa wl wc, Value.slice ka kl2 kc] 116)).alloc (Obj.cells #[Value.int .i64 0, Value.slice none 0 0] 82)).alloc (Obj.cells #[Value.int .i64 x0.wd, Value.slice x0.a x0.ws.length x0.c] 82)) (u.heap.size + 1) #[Value.int .i64 0, Value.slice none 0 0] 82 := by
    have := (Bz.new (u.alloc (Obj.cells #[Value.int .i64 3, Value.int .i64 vr, Value.int .i64 A, Value.int .i64 B, Value.int .i64 bw, Value.slice wa wl wc, Value.slice ka kl2 kc] 116)) #[Value.int .i64 0, Value.slice none 0 0] 82).later ((Below.refl _ _).alloc (Nat.le_refl _) (Obj.cells #[Value.int .i64 x0.wd, Value.slice x0.a x0.ws.length x0.c] 82))
    rw [World.size_alloc] at this
    exact this
  have XQ4 : Bz (((u.alloc (Obj.cells #[Value.int .i64 3, Value.int .i64 vr, Value.int .i64 A, Value.int .i64 B, Value.int .i64 bw, Value.slice wa wl wc, Value.slice ka kl2 kc] 116)).alloc (Obj.cells #[Value.int .i64 0, Value.slice none 0 0] 82)).alloc (Obj.cells #[Value.int .i64 x0.wd, Value.slice x0.a x0.ws.length x0.c] 82)) (u.heap.size + 1 + 1) #[Value.int .i64 x0.wd, Value.slice x0.a x0.ws.length x0.c] 82 := by
    have := Bz.new ((u.alloc (Obj.cells #[Value.int .i64 3, Value.int .i64 vr, Value.int .i64 A, Value.int .i64 B, Value.int .i64 bw, Value.slice wa wl wc, Value.slice ka kl2 kc] 116)).alloc (Obj.cells #[Value.int .i64 0, Value.slice none 0 0] 82)) #[Value.int .i64 x0.wd, Value.slice x0.a x0.ws.length x0.c] 82
    simp only [World.size_alloc] at this
    exact this
  have BW4 : Below u.heap.size u (((u.alloc (Obj.cells #[Value.int .i64 3, Value.int .i64 vr, Value.int .i64 A, Value.int .i64 B, Value.int .i64 bw, Value.slice wa wl wc, Value.slice ka kl2 kc] 116)).alloc (Obj.cells #[Value.int .i64 0, Value.slice none 0 0] 82)).alloc (Obj.cells #[Value.int .i64 x0.wd, Value.slice x0.a x0.ws.length x0.c] 82)) := Ba (Ba (Ba (Below.refl _ _) _) _) _
  clear p0 p1
  go_enter Tryz.func96, Tryz.ntmps96
  go_wp2_with fail
  clear XA XR XQ BW d0 d1 t0
  generalize (((u.alloc (Obj.cells #[Value.int .i64 3, Value.int .i64 vr, Value.int .i64 A, Value.int .i64 B, Value.int .i64 bw, Value.slice wa wl wc, Value.slice ka kl2 kc] 116)).alloc (Obj.cells #[Value.int .i64 0, Value.slice none 0 0] 82)).alloc (Obj.cells #[Value.int .i64 x0.wd, Value.slice x0.a x0.ws.length x0.c] 82)) = w4 at *
  go_loopw [8] (fun q wr => ∃ (i : Nat) (xb : Option Addr) (cb : Nat), 1 ≤ i ∧ i ≤ kl ∧ q = .int .i64 (i : Int) ∧ Bz wr (u.heap.size + 1 + 1) #[.int .i64 (catS ((kd.map Bw.ct).take i)).1, .slice xb (catS ((kd.map Bw.ct).take i)).2.length cb] 82 ∧ Bz wr (u.heap.size + 1) #[Value.int .i64 0, Value.slice none 0 0] 82 ∧ Below u.heap.size u wr ∧ (i = 1 ∧ xb = x0.a ∨ Nw wr u.heap.size xb (catS ((kd.map Bw.ct).take i)).2)) (fun q _ => kl - (intOf q).toNat)
  case atStart =>
    have e : catS ((kd.map Bw.ct).take 1) = x0.ct := by
      have := catS_take (l := kd.map Bw.ct) (i := 0) (y := x0.ct) (by rw [List.getElem?_map, HX0.out]; rfl)
      simpa using this
    exact ⟨1, x0.a, x0.c, Nat.le_refl _, by omega, rfl, by rw [e]; exact XQ4, XR4, BW4, .inl ⟨rfl, rfl⟩⟩
  case round =>
    obtain ⟨i, xb, cb, hi1, hi, rfl, hq, hr, hb, halt⟩ := hrel
    have XQ := kide hq
    have XR := kide hr
    have BW := kide hb
    obtain ⟨hc1, hc2⟩ := cat_ok HOK.out HF.out (i - 1) (by rw [List.length_map, HKL.out]; omega)
    rw [show i - 1 + 1 = i by omega] at hc1 hc2
    have hwX := right_W hc2.1
    have HRB : Hid (Rd wr xb (catS ((kd.map Bw.ct).take i)).2) := by
      rcases halt with ⟨rfl, rfl⟩ | h
      · have e : catS ((kd.map Bw.ct).take 1) = x0.ct := by
          have := catS_take (l := kd.map Bw.ct) (i := 0) (y := x0.ct) (by rw [List.getElem?_map, HX0.out]; rfl)
          simpa using this
        show Rd _ _ _
        rw [e]
        exact HP0.out.later hb
      · exact h.rd (by omega) hc2.2
    have z0 := XQ.out.cell 0
    have z1 := XQ.out.cell 1
    simp at z0 z1
    by_cases hlt : i < kl
    · have i0 : (i : Int) < (kl : Int) := by omega
      obtain ⟨x, hx⟩ : ∃ x, kd[i]? = some x := ⟨kd[i]'(by rw [HKL.out]; exact hlt), List.getElem?_eq_getElem _⟩
      obtain ⟨p0, p1, pr, -⟩ := HKC.out i x hx
      have hy : (kd.map Bw.ct)[i]? = some x.ct := by rw [List.getElem?_map, hx]; rfl
      have HX := kide (catS_take hy)
      rw [if_neg (by omega)] at HX
      have D0 := kide ((kcell hb _ _ (block_lt_of_cell p0)).trans p0)
      have D1 := kide ((kcell hb _ _ (block_lt_of_cell p1)).trans p1)
      have HJ := kide (fun v (hv : Below u.heap.size u v) (hrb : Rd v xb (catS ((kd.map Bw.ct).take i)).2) => specJoin_any (catS ((kd.map Bw.ct).take i)).1 xb cb (catS ((kd.map Bw.ct).take i)).2 x.wd x.a x.c x.ws v hrb (pr.later hv))
      obtain ⟨wd, xa, xc, xs⟩ := x
      simp only [Bw.ct, joinW] at HX HJ D0 D1
      generalize catS ((kd.map Bw.ct).take i) = X at *
      generalize hR : joinR X.1 X.2 wd xs = R at *
      have HR2 : Hid ((R.1, R.2.1) = two R) := rfl
      clear hq hr hb halt hc1 hc2 hwX hx hy p0 p1 pr hR
      go_wp2_with fail
      refine wp_region_x (SA := fun z => z.cell? ⟨u.heap.size + 1 + 1, 0, none⟩ = some (Value.int .i64 X.1) ∧ z.cell? ⟨u.heap.size + 1 + 1, 1, none⟩ = some (Value.slice xb X.2.length cb) ∧ z.cell? ⟨kb, ko + i * 2, none⟩ = some (Value.int .i64 wd) ∧ z.cell? ⟨kb, ko + i * 2 + 1, none⟩ = some (Value.slice xa xs.length xc)) (SB := fun _ => True) (k := 9) (by kernel_rfl) ?_
      have hbd : Below wr.heap.size wr wr.drew := (Below.refl _ _).drew
      have XQ0 := kide (XQ.out.later hbd)
      have XR0 := kide (XR.out.later hbd)
      have BW0 := kide BW.out.drew
      have D00 := kide ((kcell hbd _ _ (block_lt_of_cell D0.out)).trans D0.out)
      have D10 := kide ((kcell hbd _ _ (block_lt_of_cell D1.out)).trans D1.out)
      have HRB0 := kide (HRB.out.later hbd)
      clear hbd XQ XR BW D0 D1 HRB z0 z1
      generalize wr.drew = v0 at *
      have hs0 : Hid ((fun z => z.cell? ⟨u.heap.size + 1 + 1, 0, none⟩ = some (Value.int .i64 X.1) ∧ z.cell? ⟨u.heap.size + 1 + 1, 1, none⟩ = some (Value.slice xb X.2.length cb) ∧ z.cell? ⟨kb, ko + i * 2, none⟩ = some (Value.int .i64 wd) ∧ z.cell? ⟨kb, ko + i * 2 + 1, none⟩ = some (Value.slice xa xs.length xc)) v0) := ⟨XQ0.out.cell 0, XQ0.out.cell 1, D00.out, D10.out⟩
      try go_simp
      refine wpAnyX_take (i := 0) (v := Value.agg #[Value.int .i64 X.1, Value.slice xb X.2.length cb]) rfl (by kernel_rfl) (by kernel_rfl) (by kernel_rfl) (fun _ _ _ h => by first | exact h | exact h.elim | cases h.1) (by decide) (by kernel_rfl) (by kernel_rfl) hs0.out (Or.inl ⟨by rfl, fun z hz => by obtain ⟨e0, e1, e2, e3⟩ := hz; go_simp⟩) ?_
      try go_simp
      refine wpAnyX_both (T := fun _ => True) (i := 1) (v := Value.slice (some ⟨kb, ko, none⟩) kl kc2) rfl (by kernel_rfl) (by kernel_rfl) (by kernel_rfl) (fun _ _ _ h => by first | exact h | exact h.elim | cases h.1) (by decide) (fun _ _ => trivial) (fun _ _ => trivial) (Sx.before (by kernel_rfl) hs0.out) (Or.inl ⟨by rfl, fun z hz => by go_simp⟩) ?_
      try go_simp
      refine wpAnyX_both (T := fun _ => True) (i := 2) (v := Value.int .i64 (i : Int)) rfl (by kernel_rfl) (by kernel_rfl) (by kernel_rfl) (fun _ _ _ h => by first | exact h | exact h.elim | cases h.1) (by decide) (fun _ _ => trivial) (fun _ _ => trivial) (Sx.before (by kernel_rfl) hs0.out) (Or.inl ⟨by rfl, fun z hz => by go_simp⟩) ?_
      try go_simp
      refine wpAnyX_both (T := fun _ => True) (i := 3) (v := Value.pointer (some ⟨kb, ko + i * 2, none⟩)) rfl (by kernel_rfl) (by kernel_rfl) (by kernel_rfl) (fun _ _ _ h => by first | exact h | exact h.elim | cases h.1) (by decide) (fun _ _ => trivial) (fun _ _ => trivial) (Sx.before (by kernel_rfl) hs0.out) (Or.inl ⟨by rfl, fun z hz => by go_simp⟩) ?_
      try go_simp
      refine wpAnyX_take (i := 4) (v := Value.agg #[Value.int .i64 wd, Value.slice xa xs.length xc]) rfl (by kernel_rfl) (by kernel_rfl) (by kernel_rfl) (fun _ _ _ h => by first | exact h | exact h.elim | cases h.1) (by decide) (by kernel_rfl) (by kernel_rfl) hs0.out (Or.inl ⟨by rfl, fun z hz => by obtain ⟨e0, e1, e2, e3⟩ := hz; go_simp⟩) ?_
      try go_simp
      refine wpAnyX_ready (rs := [5]) (by kernel_rfl) (by simp) (AllX.cons rfl (fun K hK => ?_) AllX.nil)
      go_simp
      refine Calls.mono (HJ.out v0 BW0.out HRB0.out) ?_
      rintro e v1 ⟨a5, c5, rfl, hf1, hb1⟩
      have XQ1 := kide (XQ0.out.later hb1)
      have XR1 := kide (XR0.out.later hb1)
      have D01 := kide ((kcell hb1 _ _ (block_lt_of_cell D00.out)).trans D00.out)
      have D11 := kide ((kcell hb1 _ _ (block_lt_of_cell D10.out)).trans D10.out)
      have NW := kide ((Fresh.nw hf1).mono (lo' := u.heap.size) BW0.out.size)
      have BW1 := kide (BW0.out.trans (hb1.mono BW0.out.size))
      clear hb1 hf1
      have hs1 : Hid ((fun z => z.cell? ⟨u.heap.size + 1 + 1, 0, none⟩ = some (Value.int .i64 X.1) ∧ z.cell? ⟨u.heap.size + 1 + 1, 1, none⟩ = some (Value.slice xb X.2.length cb) ∧ z.cell? ⟨kb, ko + i * 2, none⟩ = some (Value.int .i64 wd) ∧ z.cell? ⟨kb, ko + i * 2 + 1, none⟩ = some (Value.slice xa xs.length xc)) v1) := ⟨XQ1.out.cell 0, XQ1.out.cell 1, D01.out, D11.out⟩
      refine hK _ _ (Sx.before (by kernel_rfl) hs1.out) ?_
      clear hK K
      try go_simp
      refine wpAnyX_both (T := fun _ => True) (i := 6) (v := Value.tuple #[Value.agg #[Value.int .i64 R.1, Value.slice a5 R.2.1.length c5], Value.bool R.2.2]) rfl (by kernel_rfl) (by kernel_rfl) (by kernel_rfl) (fun _ _ _ h => by first | exact h | exact h.elim | cases h.1) (by decide) (fun _ _ => trivial) (fun _ _ => trivial) (Sx.before (by kernel_rfl) hs1.out) (Or.inl ⟨by rfl, fun z hz => by go_simp⟩) ?_
      try go_simp
      refine wpAnyX_both (T := fun _ => True) (i := 7) (v := Value.agg #[Value.int .i64 R.1, Value.slice a5 R.2.1.length c5]) rfl (by kernel_rfl) (by kernel_rfl) (by kernel_rfl) (fun _ _ _ h => by first | exact h | exact h.elim | cases h.1) (by decide) (fun _ _ => trivial) (fun _ _ => trivial) (Sx.before (by kernel_rfl) hs1.out) (Or.inl ⟨by rfl, fun z hz => by go_simp⟩) ?_
      try go_simp
      refine wpAnyX_both (T := fun _ => True) (i := 8) (v := Value.bool R.2.2) rfl (by kernel_rfl) (by kernel_rfl) (by kernel_rfl) (fun _ _ _ h => by first | exact h | exact h.elim | cases h.1) (by decide) (fun _ _ => trivial) (fun _ _ => trivial) (Sx.before (by kernel_rfl) hs1.out) (Or.inl ⟨by rfl, fun z hz => by go_simp⟩) ?_
      try go_simp
      refine wpAnyX_ready (rs := [9]) (by kernel_rfl) (by simp) (AllX.cons rfl (fun K hK => ?_) AllX.nil)
      have e8 := XQ1.out.cell 0
      have e9 := XQ1.out.cell 1
      have f8 := XQ1.out.froz 0
      have f9 := XQ1.out.froz 1
      simp at e8 e9
      go_simp
      have XQ2 : Hid (Bz ((v1.setCell ⟨u.heap.size + 1 + 1, 0, none⟩ (Value.int .i64 R.1)).setCell ⟨u.heap.size + 1 + 1, 1, none⟩ (Value.slice a5 R.2.1.length c5)) (u.heap.size + 1 + 1) #[Value.int .i64 R.1, Value.slice a5 R.2.1.length c5] 82) := (XQ1.out.set 0 _).set 1 _
      have XR2 : Hid (Bz ((v1.setCell ⟨u.heap.size + 1 + 1, 0, none⟩ (Value.int .i64 R.1)).setCell ⟨u.heap.size + 1 + 1, 1, none⟩ (Value.slice a5 R.2.1.length c5)) (u.heap.size + 1) #[Value.int .i64 0, Value.slice none 0 0] 82) := (XR1.out.other (by omega) 0 _).other (by omega) 1 _
      have BW2 : Hid (Below u.heap.size u ((v1.setCell ⟨u.heap.size + 1 + 1, 0, none⟩ (Value.int .i64 R.1)).setCell ⟨u.heap.size + 1 + 1, 1, none⟩ (Value.slice a5 R.2.1.length c5))) := (BW1.out.setCell (show u.heap.size ≤ u.heap.size + 1 + 1 by omega) _).setCell (show u.heap.size ≤ u.heap.size + 1 + 1 by omega) _
      have NW2 : Hid (Nw ((v1.setCell ⟨u.heap.size + 1 + 1, 0, none⟩ (Value.int .i64 R.1)).setCell ⟨u.heap.size + 1 + 1, 1, none⟩ (Value.slice a5 R.2.1.length c5)) u.heap.size a5 R.2.1) := ((NW.out.set XQ1.out (by decide) 0 _).set (XQ1.out.set 0 _) (by decide) 1 _)
      generalize (v1.setCell ⟨u.heap.size + 1 + 1, 0, none⟩ (Value.int .i64 R.1)).setCell ⟨u.heap.size + 1 + 1, 1, none⟩ (Value.slice a5 R.2.1.length c5) = v2 at *
      clear e8 e9 f8 f9
      refine hK _ _ (Sx.behind (by kernel_rfl) trivial) ?_
      clear hK K
      try go_simp
      refine wpAnyX_done (by kernel_rfl) ?_ _
      go_wp2_with fail
      go_roundw
      case rel => exact ⟨i + 1, a5, c5, by omega, by omega, by go_num, by rw [HX.out, ← HR2.out]; exact XQ2.out, XR2.out, BW2.out, .inr (by rw [HX.out, ← HR2.out]; exact NW2.out)⟩
      case measure => simp [intOf]; omega
    · have e : i = kl := by omega
      have hfin : Hid ((kd.map Bw.ct).take i = kd.map Bw.ct) := by show _ = _; rw [List.take_of_length_le (by rw [List.length_map, HKL.out]; omega)]
      rcases halt with ⟨h1, -⟩ | hnw
      · omega
      have NWX := kide hnw
      rw [hfin.out] at XQ NWX z0 z1
      have r0 := XR.out.cell 0
      have r1 := XR.out.cell 1
      have f0 := XR.out.froz 0
      have f1 := XR.out.froz 1
      simp at r0 r1
      generalize catS (kd.map Bw.ct) = X at *
      clear hq hr hb hnw hc1 hc2 hwX HRB hfin
      go_wp2_with fail
      obtain ⟨y0, y1⟩ := ((Bz.blk XR.out).put0' (.int .i64 X.1)).put1' (.slice xb X.2.length cb) |>.cells
      exact bodyPost_ret (v := .agg #[.int .i64 X.1, .slice xb X.2.length cb]) (by simp [results, Tryz.results96, go_sem, y0, y1]) rfl (RetV.box (Bz.blk XR.out) NWX.out (Nat.le_refl _) (Nat.le_succ _) BW.out)

end Go.Proofs.YtllojnloldhghaaGreatDoor
