/- What the specification's l4Node answers. -/
import Derived.Test.YtdlmgndmfphneaaGreatDoorEO
import Derived.Test.YtdlmgndmfphneaaGreatDoorZGAN
import Derived.Test.YtdlmgndmfphneaaGreatDoorT3
namespace Go.Proofs.YtdlmgndmfphneaaGreatDoor
set_option linter.unusedVariables false
set_option linter.unusedSimpArgs false
open Go.RowKit

/-- An answer that is a word that lies somewhere. -/
def RetA (u : World) (W : Int) (a : Option Addr) (m c : Nat) (e : Ending) (w' : World) : Prop := e = .returned (.agg #[.int .i64 W, .slice a m c]) ∧ Below u.heap.size u w'

set_option maxHeartbeats 1000000 in
set_option maxRecDepth 100000 in
theorem l4Var_any (va k2 wa ka : Option Addr) (vc kc2 wc kc : Nat) (vs kd : List Bw) (vr A B bw : Int) (ws : List Nat) (ks : List Int) (u : World) (k : Nat) (x : Bw) (hv : RdW u va vs) (hk : vr = (k : Int)) (hx : vs[k]? = some x) :
    Calls Tryz.prog 84 #[.slice va vs.length vc, nodA ⟨1, vr, A, B, bw, ws, ks⟩ wa ka wc kc, .slice k2 kd.length kc2] u (RetA u x.wd x.a x.ws.length x.c) := by
  have hkl := (List.getElem?_eq_some_iff.1 hx).1
  have hla := hv.1
  obtain ⟨-, h | ⟨vb, vo, rfl, hvc⟩⟩ := hv
  · rw [h] at hkl; simp at hkl
  obtain ⟨p0, p1, -, -⟩ := hvc k x hx
  have hkl' : (k : Int) < (vs.length : Int) := by omega
  subst hk
  obtain ⟨wd, xa, xc, xs⟩ := x
  simp only [nodA] at *
  clear hvc hx
  generalize ws.length = wl at *
  generalize ks.length = kl at *
  have XA : Bz (((u.alloc (Obj.cells #[Value.int .i64 1, Value.int .i64 (k : Int), Value.int .i64 A, Value.int .i64 B, Value.int .i64 bw, Value.slice wa wl wc, Value.slice ka kl kc] 63)).alloc (Obj.cells #[Value.int .i64 0, Value.slice none 0 0] 61)).alloc (Obj.cells #[Value.int .i64 0, Value.slice none 0 0] 61)) u.heap.size #[Value.int .i64 1, Value.int .i64 (k : Int), Value.int .i64 A, Value.int .i64 B, Value.int .i64 bw, Value.slice wa wl wc, Value.slice ka kl kc] 63 := ((Bz.new u #[Value.int .i64 1, Value.int .i64 (k : Int), Value.int .i64 A, Value.int .i64 B, Value.int .i64 bw, Value.slice wa wl wc, Value.slice ka kl kc] 63).later ((Below.refl _ _).alloc (Nat.le_refl _) _)).later ((Below.refl _ _).alloc (Nat.le_refl _) _)
  have XR : Bz (((u.alloc (Obj.cells #[Value.int .i64 1, Value.int .i64 (k : Int), Value.int .i64 A, Value.int .i64 B, Value.int .i64 bw, Value.slice wa wl wc, Value.slice ka kl kc] 63)).alloc (Obj.cells #[Value.int .i64 0, Value.slice none 0 0] 61)).alloc (Obj.cells #[Value.int .i64 0, Value.slice none 0 0] 61)) (u.heap.size + 1) #[Value.int .i64 0, Value.slice none 0 0] 61 := by
    have := (Bz.new (u.alloc (Obj.cells #[Value.int .i64 1, Value.int .i64 (k : Int), Value.int .i64 A, Value.int .i64 B, Value.int .i64 bw, Value.slice wa wl wc, Value.slice ka kl kc] 63)) #[Value.int .i64 0, Value.slice none 0 0] 61).later ((Below.refl _ _).alloc (Nat.le_refl _) (Obj.cells #[Value.int .i64 0, Value.slice none 0 0] 61))
    rw [World.size_alloc] at this
    exact this
  have XQ : Bz (((u.alloc (Obj.cells #[Value.int .i64 1, Value.int .i64 (k : Int), Value.int .i64 A, Value.int .i64 B, Value.int .i64 bw, Value.slice wa wl wc, Value.slice ka kl kc] 63)).alloc (Obj.cells #[Value.int .i64 0, Value.slice none 0 0] 61)).alloc (Obj.cells #[Value.int .i64 0, Value.slice none 0 0] 61)) (u.heap.size + 1 + 1) #[Value.int .i64 0, Value.slice none 0 0] 61 := by
    have := Bz.new ((u.alloc (Obj.cells #[Value.int .i64 1, Value.int .i64 (k : Int), Value.int .i64 A, Value.int .i64 B, Value.int .i64 bw, Value.slice wa wl wc, Value.slice ka kl kc] 63)).alloc (Obj.cells #[Value.int .i64 0, Value.slice none 0 0] 61)) #[Value.int .i64 0, Value.slice none 0 0] 61
    simp only [World.size_alloc] at this
    exact this
  have BW : Below u.heap.size u (((u.alloc (Obj.cells #[Value.int .i64 1, Value.int .i64 (k : Int), Value.int .i64 A, Value.int .i64 B, Value.int .i64 bw, Value.slice wa wl wc, Value.slice ka kl kc] 63)).alloc (Obj.cells #[Value.int .i64 0, Value.slice none 0 0] 61)).alloc (Obj.cells #[Value.int .i64 0, Value.slice none 0 0] 61)) := Ba (Ba (Ba (Below.refl _ _) _) _) _
  have d0 := (kcell BW _ _ (block_lt_of_cell p0)).trans p0
  have d1 := (kcell BW _ _ (block_lt_of_cell p1)).trans p1
  have t0 : (((u.alloc (Obj.cells #[Value.int .i64 1, Value.int .i64 (k : Int), Value.int .i64 A, Value.int .i64 B, Value.int .i64 bw, Value.slice wa wl wc, Value.slice ka kl kc] 63)).alloc (Obj.cells #[Value.int .i64 0, Value.slice none 0 0] 61)).alloc (Obj.cells #[Value.int .i64 0, Value.slice none 0 0] 61)).cell? ⟨u.heap.size, 0, none⟩ = some (.int .i64 1) := XA.cell 0
  have t1 : (((u.alloc (Obj.cells #[Value.int .i64 1, Value.int .i64 (k : Int), Value.int .i64 A, Value.int .i64 B, Value.int .i64 bw, Value.slice wa wl wc, Value.slice ka kl kc] 63)).alloc (Obj.cells #[Value.int .i64 0, Value.slice none 0 0] 61)).alloc (Obj.cells #[Value.int .i64 0, Value.slice none 0 0] 61)).cell? ⟨u.heap.size, 1, none⟩ = some (.int .i64 (k : Int)) := XA.cell 1
  have q0 := XQ.froz 0
  have q1 := XQ.froz 1
  clear p0 p1
  go_enter Tryz.func84, Tryz.ntmps84
  go_wp2_with fail
  exact bodyPost_ret (v := .agg #[.int .i64 wd, .slice xa xs.length xc]) (by simp [results, Tryz.results84, go_sem]) rfl ⟨rfl, Ba (Ba (Ba (Below.refl _ _) _) _) _⟩

set_option maxHeartbeats 1000000 in
set_option maxRecDepth 100000 in
theorem l4Con_any (va k2 wa ka : Option Addr) (vc kc2 wc kc : Nat) (vs kd : List Bw) (vr A B bw : Int) (ws : List Nat) (ks : List Int) (u : World) : Calls Tryz.prog 84 #[.slice va vs.length vc, nodA ⟨2, vr, A, B, bw, ws, ks⟩ wa ka wc kc, .slice k2 kd.length kc2] u (RetA u bw wa ws.length wc) := by
  simp only [nodA] at *
  generalize ks.length = kl at *
  have XA : Bz (((u.alloc (Obj.cells #[Value.int .i64 2, Value.int .i64 vr, Value.int .i64 A, Value.int .i64 B, Value.int .i64 bw, Value.slice wa ws.length wc, Value.slice ka kl kc] 63)).alloc (Obj.cells #[Value.int .i64 0, Value.slice none 0 0] 61)).alloc (Obj.cells #[Value.int .i64 0, Value.slice none 0 0] 61)) u.heap.size #[Value.int .i64 2, Value.int .i64 vr, Value.int .i64 A, Value.int .i64 B, Value.int .i64 bw, Value.slice wa ws.length wc, Value.slice ka kl kc] 63 := ((Bz.new u #[Value.int .i64 2, Value.int .i64 vr, Value.int .i64 A, Value.int .i64 B, Value.int .i64 bw, Value.slice wa ws.length wc, Value.slice ka kl kc] 63).later ((Below.refl _ _).alloc (Nat.le_refl _) _)).later ((Below.refl _ _).alloc (Nat.le_refl _) _)
  have XR : Bz (((u.alloc (Obj.cells #[Value.int .i64 2, Value.int .i64 vr, Value.int .i64 A, Value.int .i64 B, Value.int .i64 bw, Value.slice wa ws.length wc, Value.slice ka kl kc] 63)).alloc (Obj.cells #[Value.int .i64 0, Value.slice none 0 0] 61)).alloc (Obj.cells #[Value.int .i64 0, Value.slice none 0 0] 61)) (u.heap.size + 1) #[Value.int .i64 0, Value.slice none 0 0] 61 := by
    have := (Bz.new (u.alloc (Obj.cells #[Value.int .i64 2, Value.int .i64 vr, Value.int .i64 A, Value.int .i64 B, Value.int .i64 bw, Value.slice wa ws.length wc, Value.slice ka kl kc] 63)) #[Value.int .i64 0, Value.slice none 0 0] 61).later ((Below.refl _ _).alloc (Nat.le_refl _) (Obj.cells #[Value.int .i64 0, Value.slice none 0 0] 61))
    rw [World.size_alloc] at this
    exact this
  have XQ : Bz (((u.alloc (Obj.cells #[Value.int .i64 2, Value.int .i64 vr, Value.int .i64 A, Value.int .i64 B, Value.int .i64 bw, Value.slice wa ws.length wc, Value.slice ka kl kc] 63)).alloc (Obj.cells #[Value.int .i64 0, Value.slice none 0 0] 61)).alloc (Obj.cells #[Value.int .i64 0, Value.slice none 0 0] 61)) (u.heap.size + 1 + 1) #[Value.int .i64 0, Value.slice none 0 0] 61 := by
    have := Bz.new ((u.alloc (Obj.cells #[Value.int .i64 2, Value.int .i64 vr, Value.int .i64 A, Value.int .i64 B, Value.int .i64 bw, Value.slice wa ws.length wc, Value.slice ka kl kc] 63)).alloc (Obj.cells #[Value.int .i64 0, Value.slice none 0 0] 61)) #[Value.int .i64 0, Value.slice none 0 0] 61
    simp only [World.size_alloc] at this
    exact this
  have BW : Below u.heap.size u (((u.alloc (Obj.cells #[Value.int .i64 2, Value.int .i64 vr, Value.int .i64 A, Value.int .i64 B, Value.int .i64 bw, Value.slice wa ws.length wc, Value.slice ka kl kc] 63)).alloc (Obj.cells #[Value.int .i64 0, Value.slice none 0 0] 61)).alloc (Obj.cells #[Value.int .i64 0, Value.slice none 0 0] 61)) := Ba (Ba (Ba (Below.refl _ _) _) _) _
  have t0 : (((u.alloc (Obj.cells #[Value.int .i64 2, Value.int .i64 vr, Value.int .i64 A, Value.int .i64 B, Value.int .i64 bw, Value.slice wa ws.length wc, Value.slice ka kl kc] 63)).alloc (Obj.cells #[Value.int .i64 0, Value.slice none 0 0] 61)).alloc (Obj.cells #[Value.int .i64 0, Value.slice none 0 0] 61)).cell? ⟨u.heap.size, 0, none⟩ = some (.int .i64 2) := XA.cell 0
  have t4 : (((u.alloc (Obj.cells #[Value.int .i64 2, Value.int .i64 vr, Value.int .i64 A, Value.int .i64 B, Value.int .i64 bw, Value.slice wa ws.length wc, Value.slice ka kl kc] 63)).alloc (Obj.cells #[Value.int .i64 0, Value.slice none 0 0] 61)).alloc (Obj.cells #[Value.int .i64 0, Value.slice none 0 0] 61)).cell? ⟨u.heap.size, 4, none⟩ = some (.int .i64 bw) := XA.cell 4
  have t5 : (((u.alloc (Obj.cells #[Value.int .i64 2, Value.int .i64 vr, Value.int .i64 A, Value.int .i64 B, Value.int .i64 bw, Value.slice wa ws.length wc, Value.slice ka kl kc] 63)).alloc (Obj.cells #[Value.int .i64 0, Value.slice none 0 0] 61)).alloc (Obj.cells #[Value.int .i64 0, Value.slice none 0 0] 61)).cell? ⟨u.heap.size, 5, none⟩ = some (.slice wa ws.length wc) := XA.cell 5
  go_enter Tryz.func84, Tryz.ntmps84
  go_wp2_with fail
  exact bodyPost_ret (v := .agg #[.int .i64 bw, .slice wa ws.length wc]) (by simp [results, Tryz.results84, go_sem]) rfl ⟨rfl, Ba (Ba (Ba (Below.refl _ _) _) _) _⟩

set_option maxHeartbeats 2000000 in
set_option maxRecDepth 100000 in
theorem l4Part_any (va k2 wa ka : Option Addr) (vc kc2 wc kc : Nat) (vs kd : List Bw) (vr A B bw : Int) (ws : List Nat) (ks : List Int) (u : World) (x : Bw) (hd : RdW u k2 kd) (hx : kd[0]? = some x) (h64 : (Lit.int .i64 A).wf = true) :
    Calls Tryz.prog 84 #[.slice va vs.length vc, nodA ⟨4, vr, A, B, bw, ws, ks⟩ wa ka wc kc, .slice k2 kd.length kc2] u (RetV u (two (partR x.wd x.ws A B))) := by
  have hkl := (List.getElem?_eq_some_iff.1 hx).1
  have hla := hd.1
  obtain ⟨-, h | ⟨kb, ko, rfl, hkc⟩⟩ := hd
  · rw [h] at hkl; simp at hkl
  obtain ⟨p0, p1, hxr, -⟩ := hkc 0 x hx
  rw [Nat.zero_mul, Nat.add_zero] at p0 p1
  have HOP := kide (fun v (hv : Below u.heap.size u v) => specPart_any x.wd x.a x.c x.ws A B v (hxr.later hv) h64)
  have hkl' : (0 : Int) < (kd.length : Int) := by omega
  have lK := block_lt_of_cell p0
  obtain ⟨wd, xa, xc, xs⟩ := x
  simp only [nodA, RetB] at *
  clear hkc hx hxr
  generalize hR : partR wd xs A B = R at *
  clear hR
  generalize ws.length = wl at *
  generalize ks.length = kl at *
  have XA : Bz (((u.alloc (Obj.cells #[Value.int .i64 4, Value.int .i64 vr, Value.int .i64 A, Value.int .i64 B, Value.int .i64 bw, Value.slice wa wl wc, Value.slice ka kl kc] 63)).alloc (Obj.cells #[Value.int .i64 0, Value.slice none 0 0] 61)).alloc (Obj.cells #[Value.int .i64 0, Value.slice none 0 0] 61)) u.heap.size #[Value.int .i64 4, Value.int .i64 vr, Value.int .i64 A, Value.int .i64 B, Value.int .i64 bw, Value.slice wa wl wc, Value.slice ka kl kc] 63 := ((Bz.new u #[Value.int .i64 4, Value.int .i64 vr, Value.int .i64 A, Value.int .i64 B, Value.int .i64 bw, Value.slice wa wl wc, Value.slice ka kl kc] 63).later ((Below.refl _ _).alloc (Nat.le_refl _) _)).later ((Below.refl _ _).alloc (Nat.le_refl _) _)
  have XR : Bz (((u.alloc (Obj.cells #[Value.int .i64 4, Value.int .i64 vr, Value.int .i64 A, Value.int .i64 B, Value.int .i64 bw, Value.slice wa wl wc, Value.slice ka kl kc] 63)).alloc (Obj.cells #[Value.int .i64 0, Value.slice none 0 0] 61)).alloc (Obj.cells #[Value.int .i64 0, Value.slice none 0 0] 61)) (u.heap.size + 1) #[Value.int .i64 0, Value.slice none 0 0] 61 := by
    have := (Bz.new (u.alloc (Obj.cells #[Value.int .i64 4, Value.int .i64 vr, Value.int .i64 A, Value.int .i64 B, Value.int .i64 bw, Value.slice wa wl wc, Value.slice ka kl kc] 63)) #[Value.int .i64 0, Value.slice none 0 0] 61).later ((Below.refl _ _).alloc (Nat.le_refl _) (Obj.cells #[Value.int .i64 0, Value.slice none 0 0] 61))
    rw [World.size_alloc] at this
    exact this
  have XQ : Bz (((u.alloc (Obj.cells #[Value.int .i64 4, Value.int .i64 vr, Value.int .i64 A, Value.int .i64 B, Value.int .i64 bw, Value.slice wa wl wc, Value.slice ka kl kc] 63)).alloc (Obj.cells #[Value.int .i64 0, Value.slice none 0 0] 61)).alloc (Obj.cells #[Value.int .i64 0, Value.slice none 0 0] 61)) (u.heap.size + 1 + 1) #[Value.int .i64 0, Value.slice none 0 0] 61 := by
    have := Bz.new ((u.alloc (Obj.cells #[Value.int .i64 4, Value.int .i64 vr, Value.int .i64 A, Value.int .i64 B, Value.int .i64 bw, Value.slice wa wl wc, Value.slice ka kl kc] 63)).alloc (Obj.cells #[Value.int .i64 0, Value.slice none 0 0] 61)) #[Value.int .i64 0, Value.slice none 0 0] 61
    simp only [World.size_alloc] at this
    exact this
  have BW : Below u.heap.size u (((u.alloc (Obj.cells #[Value.int .i64 4, Value.int .i64 vr, Value.int .i64 A, Value.int .i64 B, Value.int .i64 bw, Value.slice wa wl wc, Value.slice ka kl kc] 63)).alloc (Obj.cells #[Value.int .i64 0, Value.slice none 0 0] 61)).alloc (Obj.cells #[Value.int .i64 0, Value.slice none 0 0] 61)) := Ba (Ba (Ba (Below.refl _ _) _) _) _
  have d0 := (kcell BW _ _ (block_lt_of_cell p0)).trans p0
  have d1 := (kcell BW _ _ (block_lt_of_cell p1)).trans p1
  have t0 : (((u.alloc (Obj.cells #[Value.int .i64 4, Value.int .i64 vr, Value.int .i64 A, Value.int .i64 B, Value.int .i64 bw, Value.slice wa wl wc, Value.slice ka kl kc] 63)).alloc (Obj.cells #[Value.int .i64 0, Value.slice none 0 0] 61)).alloc (Obj.cells #[Value.int .i64 0, Value.slice none 0 0] 61)).cell? ⟨u.heap.size, 0, none⟩ = some (.int .i64 4) := XA.cell 0
  have d2 : (((u.alloc (Obj.cells #[Value.int .i64 4, Value.int .i64 vr, Value.int .i64 A, Value.int .i64 B, Value.int .i64 bw, Value.slice wa wl wc, Value.slice ka kl kc] 63)).alloc (Obj.cells #[Value.int .i64 0, Value.slice none 0 0] 61)).alloc (Obj.cells #[Value.int .i64 0, Value.slice none 0 0] 61)).cell? ⟨u.heap.size, 2, none⟩ = some (.int .i64 A) := XA.cell 2
  have d3 : (((u.alloc (Obj.cells #[Value.int .i64 4, Value.int .i64 vr, Value.int .i64 A, Value.int .i64 B, Value.int .i64 bw, Value.slice wa wl wc, Value.slice ka kl kc] 63)).alloc (Obj.cells #[Value.int .i64 0, Value.slice none 0 0] 61)).alloc (Obj.cells #[Value.int .i64 0, Value.slice none 0 0] 61)).cell? ⟨u.heap.size, 3, none⟩ = some (.int .i64 B) := XA.cell 3
  have m0 := Nat.lt_of_lt_of_le lK BW.size
  have m2 := XA.lt
  try simp only [] at lK m0
  clear p0 p1
  go_enter Tryz.func84, Tryz.ntmps84
  go_wp2_with fail
  generalize (((u.alloc (Obj.cells #[Value.int .i64 4, Value.int .i64 vr, Value.int .i64 A, Value.int .i64 B, Value.int .i64 bw, Value.slice wa wl wc, Value.slice ka kl kc] 63)).alloc (Obj.cells #[Value.int .i64 0, Value.slice none 0 0] 61)).alloc (Obj.cells #[Value.int .i64 0, Value.slice none 0 0] 61)) = w1 at *
  go_region_held_law (fun v => v.cell? ⟨kb, ko, none⟩ = some (.int .i64 wd) ∧ v.cell? ⟨kb, ko + 1, none⟩ = some (.slice xa xs.length xc) ∧ v.cell? ⟨u.heap.size, 2, none⟩ = some (.int .i64 A) ∧ v.cell? ⟨u.heap.size, 3, none⟩ = some (.int .i64 B))
    (first | (refine ⟨?_, ?_, ?_, ?_⟩ <;> assumption) | (refine ⟨?_, ?_, ?_, ?_⟩ <;> ((first | rw [set2_far _ _ _ _ _ (by simp only []; omega)] | rw [drew2_far _ _ _ _ _ (by simp only []; omega)]); assumption)))
    ((go_at_call 111; refine Calls.mono (HOP.out _ ?_) ?_; exact BW.drew; rintro e w2 ⟨a5, c5, rfl, hf2, hb2⟩; replace hb2 := kundrew hb2; have XR2 := XR.later hb2; have XQ2 := XQ.later hb2; have d0x := (kcell hb2 _ _ m0).trans d0; have d1x := (kcell hb2 _ _ m0).trans d1; have d2x := (kcell hb2 _ _ m2).trans d2; have d3x := (kcell hb2 _ _ m2).trans d3; have r0 := XQ2.cell 0; have r1 := XQ2.cell 1; have f50 := XQ2.froz 0; have f51 := XQ2.froz 1; simp at r0 r1; have NW2 := kide ((Fresh.nwE hf2).mono (lo' := u.heap.size) BW.size)))
  have BW2 := BW.trans (hb2.mono BW.size)
  have XQ3 := (XQ2.set 0 (.int .i64 R.1)).set 1 (.slice a5 R.2.1.length c5)
  have XR3 := (XR2.other (c := u.heap.size + 1 + 1) (by omega) 0 (.int .i64 R.1)).other (c := u.heap.size + 1 + 1) (by omega) 1 (.slice a5 R.2.1.length c5)
  have NW3 := (NW2.out.set XQ2 (by decide) 0 (.int .i64 R.1)).set (XQ2.set 0 (.int .i64 R.1)) (by decide) 1 (.slice a5 R.2.1.length c5)
  have BW3 := (BW2.setCell (p := ⟨u.heap.size + 1 + 1, 0, none⟩) (show u.heap.size ≤ u.heap.size + 1 + 1 by omega) (.int .i64 R.1)).setCell (p := ⟨u.heap.size + 1 + 1, 1, none⟩) (show u.heap.size ≤ u.heap.size + 1 + 1 by omega) (.slice a5 R.2.1.length c5)
  have z0 := XQ3.cell 0
  have z1 := XQ3.cell 1
  have s0 := XR3.cell 0
  have s1 := XR3.cell 1
  have g0 := XR3.froz 0
  have g1 := XR3.froz 1
  simp only [List.setIfInBounds_toArray, List.set_cons_zero, List.set_cons_succ, List.getElem?_toArray, List.getElem?_cons_zero, List.getElem?_cons_succ] at z0 z1 s0 s1
  clear r0 r1 f50 f51
  go_wp2_with fail
  obtain ⟨y0, y1⟩ := ((Bz.blk XR3).put0' (.int .i64 R.1)).put1' (.slice a5 R.2.1.length c5) |>.cells
  have HE := RetV.box (W := R.1) (c := c5) (Bz.blk XR3) NW3 (Nat.le_refl _) (Nat.le_succ _) BW3
  refine bodyPost_ret (v := .agg #[.int .i64 R.1, .slice a5 R.2.1.length c5]) (by simp [results, Tryz.results84, go_sem, y0, y1]) rfl ?_
  first | exact HE | exact ⟨a5, c5, rfl, (by obtain ⟨a', c', he, h, -⟩ := HE; cases he; exact h), (by obtain ⟨-, -, -, -, h⟩ := HE; exact h.drew)⟩

set_option maxHeartbeats 2000000 in
set_option maxRecDepth 100000 in
theorem l4Zero_any (va k2 wa ka : Option Addr) (vc kc2 wc kc : Nat) (vs kd : List Bw) (vr A B bw : Int) (ws : List Nat) (ks : List Int) (u : World) (x : Bw) (hd : RdW u k2 kd) (hx : kd[0]? = some x) :
    Calls Tryz.prog 84 #[.slice va vs.length vc, nodA ⟨5, vr, A, B, bw, ws, ks⟩ wa ka wc kc, .slice k2 kd.length kc2] u (RetV u (two (wdnR x.wd x.ws A false))) := by
  have hkl := (List.getElem?_eq_some_iff.1 hx).1
  have hla := hd.1
  obtain ⟨-, h | ⟨kb, ko, rfl, hkc⟩⟩ := hd
  · rw [h] at hkl; simp at hkl
  obtain ⟨p0, p1, hxr, -⟩ := hkc 0 x hx
  rw [Nat.zero_mul, Nat.add_zero] at p0 p1
  have HOP := kide (fun v (hv : Below u.heap.size u v) => specWid_any x.wd x.a x.c x.ws A false v (hxr.later hv))
  have hkl' : (0 : Int) < (kd.length : Int) := by omega
  have lK := block_lt_of_cell p0
  obtain ⟨wd, xa, xc, xs⟩ := x
  simp only [nodA, RetB] at *
  clear hkc hx hxr
  generalize hR : wdnR wd xs A false = R at *
  clear hR
  generalize ws.length = wl at *
  generalize ks.length = kl at *
  have XA : Bz (((u.alloc (Obj.cells #[Value.int .i64 5, Value.int .i64 vr, Value.int .i64 A, Value.int .i64 B, Value.int .i64 bw, Value.slice wa wl wc, Value.slice ka kl kc] 63)).alloc (Obj.cells #[Value.int .i64 0, Value.slice none 0 0] 61)).alloc (Obj.cells #[Value.int .i64 0, Value.slice none 0 0] 61)) u.heap.size #[Value.int .i64 5, Value.int .i64 vr, Value.int .i64 A, Value.int .i64 B, Value.int .i64 bw, Value.slice wa wl wc, Value.slice ka kl kc] 63 := ((Bz.new u #[Value.int .i64 5, Value.int .i64 vr, Value.int .i64 A, Value.int .i64 B, Value.int .i64 bw, Value.slice wa wl wc, Value.slice ka kl kc] 63).later ((Below.refl _ _).alloc (Nat.le_refl _) _)).later ((Below.refl _ _).alloc (Nat.le_refl _) _)
  have XR : Bz (((u.alloc (Obj.cells #[Value.int .i64 5, Value.int .i64 vr, Value.int .i64 A, Value.int .i64 B, Value.int .i64 bw, Value.slice wa wl wc, Value.slice ka kl kc] 63)).alloc (Obj.cells #[Value.int .i64 0, Value.slice none 0 0] 61)).alloc (Obj.cells #[Value.int .i64 0, Value.slice none 0 0] 61)) (u.heap.size + 1) #[Value.int .i64 0, Value.slice none 0 0] 61 := by
    have := (Bz.new (u.alloc (Obj.cells #[Value.int .i64 5, Value.int .i64 vr, Value.int .i64 A, Value.int .i64 B, Value.int .i64 bw, Value.slice wa wl wc, Value.slice ka kl kc] 63)) #[Value.int .i64 0, Value.slice none 0 0] 61).later ((Below.refl _ _).alloc (Nat.le_refl _) (Obj.cells #[Value.int .i64 0, Value.slice none 0 0] 61))
    rw [World.size_alloc] at this
    exact this
  have XQ : Bz (((u.alloc (Obj.cells #[Value.int .i64 5, Value.int .i64 vr, Value.int .i64 A, Value.int .i64 B, Value.int .i64 bw, Value.slice wa wl wc, Value.slice ka kl kc] 63)).alloc (Obj.cells #[Value.int .i64 0, Value.slice none 0 0] 61)).alloc (Obj.cells #[Value.int .i64 0, Value.slice none 0 0] 61)) (u.heap.size + 1 + 1) #[Value.int .i64 0, Value.slice none 0 0] 61 := by
    have := Bz.new ((u.alloc (Obj.cells #[Value.int .i64 5, Value.int .i64 vr, Value.int .i64 A, Value.int .i64 B, Value.int .i64 bw, Value.slice wa wl wc, Value.slice ka kl kc] 63)).alloc (Obj.cells #[Value.int .i64 0, Value.slice none 0 0] 61)) #[Value.int .i64 0, Value.slice none 0 0] 61
    simp only [World.size_alloc] at this
    exact this
  have BW : Below u.heap.size u (((u.alloc (Obj.cells #[Value.int .i64 5, Value.int .i64 vr, Value.int .i64 A, Value.int .i64 B, Value.int .i64 bw, Value.slice wa wl wc, Value.slice ka kl kc] 63)).alloc (Obj.cells #[Value.int .i64 0, Value.slice none 0 0] 61)).alloc (Obj.cells #[Value.int .i64 0, Value.slice none 0 0] 61)) := Ba (Ba (Ba (Below.refl _ _) _) _) _
  have d0 := (kcell BW _ _ (block_lt_of_cell p0)).trans p0
  have d1 := (kcell BW _ _ (block_lt_of_cell p1)).trans p1
  have t0 : (((u.alloc (Obj.cells #[Value.int .i64 5, Value.int .i64 vr, Value.int .i64 A, Value.int .i64 B, Value.int .i64 bw, Value.slice wa wl wc, Value.slice ka kl kc] 63)).alloc (Obj.cells #[Value.int .i64 0, Value.slice none 0 0] 61)).alloc (Obj.cells #[Value.int .i64 0, Value.slice none 0 0] 61)).cell? ⟨u.heap.size, 0, none⟩ = some (.int .i64 5) := XA.cell 0
  have d2 : (((u.alloc (Obj.cells #[Value.int .i64 5, Value.int .i64 vr, Value.int .i64 A, Value.int .i64 B, Value.int .i64 bw, Value.slice wa wl wc, Value.slice ka kl kc] 63)).alloc (Obj.cells #[Value.int .i64 0, Value.slice none 0 0] 61)).alloc (Obj.cells #[Value.int .i64 0, Value.slice none 0 0] 61)).cell? ⟨u.heap.size, 2, none⟩ = some (.int .i64 A) := XA.cell 2
  have m0 := Nat.lt_of_lt_of_le lK BW.size
  have m2 := XA.lt
  try simp only [] at lK m0
  clear p0 p1
  go_enter Tryz.func84, Tryz.ntmps84
  go_wp2_with fail
  generalize (((u.alloc (Obj.cells #[Value.int .i64 5, Value.int .i64 vr, Value.int .i64 A, Value.int .i64 B, Value.int .i64 bw, Value.slice wa wl wc, Value.slice ka kl kc] 63)).alloc (Obj.cells #[Value.int .i64 0, Value.slice none 0 0] 61)).alloc (Obj.cells #[Value.int .i64 0, Value.slice none 0 0] 61)) = w1 at *
  go_region_held_law (fun v => v.cell? ⟨kb, ko, none⟩ = some (.int .i64 wd) ∧ v.cell? ⟨kb, ko + 1, none⟩ = some (.slice xa xs.length xc) ∧ v.cell? ⟨u.heap.size, 2, none⟩ = some (.int .i64 A))
    (first | (refine ⟨?_, ?_, ?_⟩ <;> assumption) | (refine ⟨?_, ?_, ?_⟩ <;> ((first | rw [set2_far _ _ _ _ _ (by simp only []; omega)] | rw [drew2_far _ _ _ _ _ (by simp only []; omega)]); assumption)))
    ((go_at_call 112; refine Calls.mono (HOP.out _ ?_) ?_; exact BW.drew; rintro e w2 ⟨a5, c5, rfl, hf2, hb2⟩; replace hb2 := kundrew hb2; have XR2 := XR.later hb2; have XQ2 := XQ.later hb2; have d0x := (kcell hb2 _ _ m0).trans d0; have d1x := (kcell hb2 _ _ m0).trans d1; have d2x := (kcell hb2 _ _ m2).trans d2; have r0 := XQ2.cell 0; have r1 := XQ2.cell 1; have f50 := XQ2.froz 0; have f51 := XQ2.froz 1; simp at r0 r1; have NW2 := kide ((Fresh.nwE hf2).mono (lo' := u.heap.size) BW.size)))
  have BW2 := BW.trans (hb2.mono BW.size)
  have XQ3 := (XQ2.set 0 (.int .i64 R.1)).set 1 (.slice a5 R.2.1.length c5)
  have XR3 := (XR2.other (c := u.heap.size + 1 + 1) (by omega) 0 (.int .i64 R.1)).other (c := u.heap.size + 1 + 1) (by omega) 1 (.slice a5 R.2.1.length c5)
  have NW3 := (NW2.out.set XQ2 (by decide) 0 (.int .i64 R.1)).set (XQ2.set 0 (.int .i64 R.1)) (by decide) 1 (.slice a5 R.2.1.length c5)
  have BW3 := (BW2.setCell (p := ⟨u.heap.size + 1 + 1, 0, none⟩) (show u.heap.size ≤ u.heap.size + 1 + 1 by omega) (.int .i64 R.1)).setCell (p := ⟨u.heap.size + 1 + 1, 1, none⟩) (show u.heap.size ≤ u.heap.size + 1 + 1 by omega) (.slice a5 R.2.1.length c5)
  have z0 := XQ3.cell 0
  have z1 := XQ3.cell 1
  have s0 := XR3.cell 0
  have s1 := XR3.cell 1
  have g0 := XR3.froz 0
  have g1 := XR3.froz 1
  simp only [List.setIfInBounds_toArray, List.set_cons_zero, List.set_cons_succ, List.getElem?_toArray, List.getElem?_cons_zero, List.getElem?_cons_succ] at z0 z1 s0 s1
  clear r0 r1 f50 f51
  go_wp2_with fail
  obtain ⟨y0, y1⟩ := ((Bz.blk XR3).put0' (.int .i64 R.1)).put1' (.slice a5 R.2.1.length c5) |>.cells
  have HE := RetV.box (W := R.1) (c := c5) (Bz.blk XR3) NW3 (Nat.le_refl _) (Nat.le_succ _) BW3
  refine bodyPost_ret (v := .agg #[.int .i64 R.1, .slice a5 R.2.1.length c5]) (by simp [results, Tryz.results84, go_sem, y0, y1]) rfl ?_
  first | exact HE | exact ⟨a5, c5, rfl, (by obtain ⟨a', c', he, h, -⟩ := HE; cases he; exact h), (by obtain ⟨-, -, -, -, h⟩ := HE; exact h.drew)⟩

set_option maxHeartbeats 2000000 in
set_option maxRecDepth 100000 in
theorem l4Sign_any (va k2 wa ka : Option Addr) (vc kc2 wc kc : Nat) (vs kd : List Bw) (vr A B bw : Int) (ws : List Nat) (ks : List Int) (u : World) (x : Bw) (hd : RdW u k2 kd) (hx : kd[0]? = some x) :
    Calls Tryz.prog 84 #[.slice va vs.length vc, nodA ⟨6, vr, A, B, bw, ws, ks⟩ wa ka wc kc, .slice k2 kd.length kc2] u (RetV u (two (wdnR x.wd x.ws A true))) := by
  have hkl := (List.getElem?_eq_some_iff.1 hx).1
  have hla := hd.1
  obtain ⟨-, h | ⟨kb, ko, rfl, hkc⟩⟩ := hd
  · rw [h] at hkl; simp at hkl
  obtain ⟨p0, p1, hxr, -⟩ := hkc 0 x hx
  rw [Nat.zero_mul, Nat.add_zero] at p0 p1
  have HOP := kide (fun v (hv : Below u.heap.size u v) => specWid_any x.wd x.a x.c x.ws A true v (hxr.later hv))
  have hkl' : (0 : Int) < (kd.length : Int) := by omega
  have lK := block_lt_of_cell p0
  obtain ⟨wd, xa, xc, xs⟩ := x
  simp only [nodA, RetB] at *
  clear hkc hx hxr
  generalize hR : wdnR wd xs A true = R at *
  clear hR
  generalize ws.length = wl at *
  generalize ks.length = kl at *
  have XA : Bz (((u.alloc (Obj.cells #[Value.int .i64 6, Value.int .i64 vr, Value.int .i64 A, Value.int .i64 B, Value.int .i64 bw, Value.slice wa wl wc, Value.slice ka kl kc] 63)).alloc (Obj.cells #[Value.int .i64 0, Value.slice none 0 0] 61)).alloc (Obj.cells #[Value.int .i64 0, Value.slice none 0 0] 61)) u.heap.size #[Value.int .i64 6, Value.int .i64 vr, Value.int .i64 A, Value.int .i64 B, Value.int .i64 bw, Value.slice wa wl wc, Value.slice ka kl kc] 63 := ((Bz.new u #[Value.int .i64 6, Value.int .i64 vr, Value.int .i64 A, Value.int .i64 B, Value.int .i64 bw, Value.slice wa wl wc, Value.slice ka kl kc] 63).later ((Below.refl _ _).alloc (Nat.le_refl _) _)).later ((Below.refl _ _).alloc (Nat.le_refl _) _)
  have XR : Bz (((u.alloc (Obj.cells #[Value.int .i64 6, Value.int .i64 vr, Value.int .i64 A, Value.int .i64 B, Value.int .i64 bw, Value.slice wa wl wc, Value.slice ka kl kc] 63)).alloc (Obj.cells #[Value.int .i64 0, Value.slice none 0 0] 61)).alloc (Obj.cells #[Value.int .i64 0, Value.slice none 0 0] 61)) (u.heap.size + 1) #[Value.int .i64 0, Value.slice none 0 0] 61 := by
    have := (Bz.new (u.alloc (Obj.cells #[Value.int .i64 6, Value.int .i64 vr, Value.int .i64 A, Value.int .i64 B, Value.int .i64 bw, Value.slice wa wl wc, Value.slice ka kl kc] 63)) #[Value.int .i64 0, Value.slice none 0 0] 61).later ((Below.refl _ _).alloc (Nat.le_refl _) (Obj.cells #[Value.int .i64 0, Value.slice none 0 0] 61))
    rw [World.size_alloc] at this
    exact this
  have XQ : Bz (((u.alloc (Obj.cells #[Value.int .i64 6, Value.int .i64 vr, Value.int .i64 A, Value.int .i64 B, Value.int .i64 bw, Value.slice wa wl wc, Value.slice ka kl kc] 63)).alloc (Obj.cells #[Value.int .i64 0, Value.slice none 0 0] 61)).alloc (Obj.cells #[Value.int .i64 0, Value.slice none 0 0] 61)) (u.heap.size + 1 + 1) #[Value.int .i64 0, Value.slice none 0 0] 61 := by
    have := Bz.new ((u.alloc (Obj.cells #[Value.int .i64 6, Value.int .i64 vr, Value.int .i64 A, Value.int .i64 B, Value.int .i64 bw, Value.slice wa wl wc, Value.slice ka kl kc] 63)).alloc (Obj.cells #[Value.int .i64 0, Value.slice none 0 0] 61)) #[Value.int .i64 0, Value.slice none 0 0] 61
    simp only [World.size_alloc] at this
    exact this
  have BW : Below u.heap.size u (((u.alloc (Obj.cells #[Value.int .i64 6, Value.int .i64 vr, Value.int .i64 A, Value.int .i64 B, Value.int .i64 bw, Value.slice wa wl wc, Value.slice ka kl kc] 63)).alloc (Obj.cells #[Value.int .i64 0, Value.slice none 0 0] 61)).alloc (Obj.cells #[Value.int .i64 0, Value.slice none 0 0] 61)) := Ba (Ba (Ba (Below.refl _ _) _) _) _
  have d0 := (kcell BW _ _ (block_lt_of_cell p0)).trans p0
  have d1 := (kcell BW _ _ (block_lt_of_cell p1)).trans p1
  have t0 : (((u.alloc (Obj.cells #[Value.int .i64 6, Value.int .i64 vr, Value.int .i64 A, Value.int .i64 B, Value.int .i64 bw, Value.slice wa wl wc, Value.slice ka kl kc] 63)).alloc (Obj.cells #[Value.int .i64 0, Value.slice none 0 0] 61)).alloc (Obj.cells #[Value.int .i64 0, Value.slice none 0 0] 61)).cell? ⟨u.heap.size, 0, none⟩ = some (.int .i64 6) := XA.cell 0
  have d2 : (((u.alloc (Obj.cells #[Value.int .i64 6, Value.int .i64 vr, Value.int .i64 A, Value.int .i64 B, Value.int .i64 bw, Value.slice wa wl wc, Value.slice ka kl kc] 63)).alloc (Obj.cells #[Value.int .i64 0, Value.slice none 0 0] 61)).alloc (Obj.cells #[Value.int .i64 0, Value.slice none 0 0] 61)).cell? ⟨u.heap.size, 2, none⟩ = some (.int .i64 A) := XA.cell 2
  have m0 := Nat.lt_of_lt_of_le lK BW.size
  have m2 := XA.lt
  try simp only [] at lK m0
  clear p0 p1
  go_enter Tryz.func84, Tryz.ntmps84
  go_wp2_with fail
  generalize (((u.alloc (Obj.cells #[Value.int .i64 6, Value.int .i64 vr, Value.int .i64 A, Value.int .i64 B, Value.int .i64 bw, Value.slice wa wl wc, Value.slice ka kl kc] 63)).alloc (Obj.cells #[Value.int .i64 0, Value.slice none 0 0] 61)).alloc (Obj.cells #[Value.int .i64 0, Value.slice none 0 0] 61)) = w1 at *
  go_region_held_law (fun v => v.cell? ⟨kb, ko, none⟩ = some (.int .i64 wd) ∧ v.cell? ⟨kb, ko + 1, none⟩ = some (.slice xa xs.length xc) ∧ v.cell? ⟨u.heap.size, 2, none⟩ = some (.int .i64 A))
    (first | (refine ⟨?_, ?_, ?_⟩ <;> assumption) | (refine ⟨?_, ?_, ?_⟩ <;> ((first | rw [set2_far _ _ _ _ _ (by simp only []; omega)] | rw [drew2_far _ _ _ _ _ (by simp only []; omega)]); assumption)))
    ((go_at_call 112; refine Calls.mono (HOP.out _ ?_) ?_; exact BW.drew; rintro e w2 ⟨a5, c5, rfl, hf2, hb2⟩; replace hb2 := kundrew hb2; have XR2 := XR.later hb2; have XQ2 := XQ.later hb2; have d0x := (kcell hb2 _ _ m0).trans d0; have d1x := (kcell hb2 _ _ m0).trans d1; have d2x := (kcell hb2 _ _ m2).trans d2; have r0 := XQ2.cell 0; have r1 := XQ2.cell 1; have f50 := XQ2.froz 0; have f51 := XQ2.froz 1; simp at r0 r1; have NW2 := kide ((Fresh.nwE hf2).mono (lo' := u.heap.size) BW.size)))
  have BW2 := BW.trans (hb2.mono BW.size)
  have XQ3 := (XQ2.set 0 (.int .i64 R.1)).set 1 (.slice a5 R.2.1.length c5)
  have XR3 := (XR2.other (c := u.heap.size + 1 + 1) (by omega) 0 (.int .i64 R.1)).other (c := u.heap.size + 1 + 1) (by omega) 1 (.slice a5 R.2.1.length c5)
  have NW3 := (NW2.out.set XQ2 (by decide) 0 (.int .i64 R.1)).set (XQ2.set 0 (.int .i64 R.1)) (by decide) 1 (.slice a5 R.2.1.length c5)
  have BW3 := (BW2.setCell (p := ⟨u.heap.size + 1 + 1, 0, none⟩) (show u.heap.size ≤ u.heap.size + 1 + 1 by omega) (.int .i64 R.1)).setCell (p := ⟨u.heap.size + 1 + 1, 1, none⟩) (show u.heap.size ≤ u.heap.size + 1 + 1 by omega) (.slice a5 R.2.1.length c5)
  have z0 := XQ3.cell 0
  have z1 := XQ3.cell 1
  have s0 := XR3.cell 0
  have s1 := XR3.cell 1
  have g0 := XR3.froz 0
  have g1 := XR3.froz 1
  simp only [List.setIfInBounds_toArray, List.set_cons_zero, List.set_cons_succ, List.getElem?_toArray, List.getElem?_cons_zero, List.getElem?_cons_succ] at z0 z1 s0 s1
  clear r0 r1 f50 f51
  go_wp2_with fail
  obtain ⟨y0, y1⟩ := ((Bz.blk XR3).put0' (.int .i64 R.1)).put1' (.slice a5 R.2.1.length c5) |>.cells
  have HE := RetV.box (W := R.1) (c := c5) (Bz.blk XR3) NW3 (Nat.le_refl _) (Nat.le_succ _) BW3
  refine bodyPost_ret (v := .agg #[.int .i64 R.1, .slice a5 R.2.1.length c5]) (by simp [results, Tryz.results84, go_sem, y0, y1]) rfl ?_
  first | exact HE | exact ⟨a5, c5, rfl, (by obtain ⟨a', c', he, h, -⟩ := HE; cases he; exact h), (by obtain ⟨-, -, -, -, h⟩ := HE; exact h.drew)⟩

set_option maxHeartbeats 2000000 in
set_option maxRecDepth 100000 in
theorem l4Left_any (va k2 wa ka : Option Addr) (vc kc2 wc kc : Nat) (vs kd : List Bw) (vr A B bw : Int) (ws : List Nat) (ks : List Int) (u : World) (x : Bw) (hd : RdW u k2 kd) (hx : kd[0]? = some x) :
    Calls Tryz.prog 84 #[.slice va vs.length vc, nodA ⟨7, vr, A, B, bw, ws, ks⟩ wa ka wc kc, .slice k2 kd.length kc2] u (RetV u (two (turnR x.wd x.ws A))) := by
  have hkl := (List.getElem?_eq_some_iff.1 hx).1
  have hla := hd.1
  obtain ⟨-, h | ⟨kb, ko, rfl, hkc⟩⟩ := hd
  · rw [h] at hkl; simp at hkl
  obtain ⟨p0, p1, hxr, -⟩ := hkc 0 x hx
  rw [Nat.zero_mul, Nat.add_zero] at p0 p1
  have HOP := kide (fun v (hv : Below u.heap.size u v) => specTurn_any x.wd x.a x.c x.ws A v (hxr.later hv))
  have hkl' : (0 : Int) < (kd.length : Int) := by omega
  have lK := block_lt_of_cell p0
  obtain ⟨wd, xa, xc, xs⟩ := x
  simp only [nodA, RetB] at *
  clear hkc hx hxr
  generalize hR : turnR wd xs A = R at *
  clear hR
  generalize ws.length = wl at *
  generalize ks.length = kl at *
  have XA : Bz (((u.alloc (Obj.cells #[Value.int .i64 7, Value.int .i64 vr, Value.int .i64 A, Value.int .i64 B, Value.int .i64 bw, Value.slice wa wl wc, Value.slice ka kl kc] 63)).alloc (Obj.cells #[Value.int .i64 0, Value.slice none 0 0] 61)).alloc (Obj.cells #[Value.int .i64 0, Value.slice none 0 0] 61)) u.heap.size #[Value.int .i64 7, Value.int .i64 vr, Value.int .i64 A, Value.int .i64 B, Value.int .i64 bw, Value.slice wa wl wc, Value.slice ka kl kc] 63 := ((Bz.new u #[Value.int .i64 7, Value.int .i64 vr, Value.int .i64 A, Value.int .i64 B, Value.int .i64 bw, Value.slice wa wl wc, Value.slice ka kl kc] 63).later ((Below.refl _ _).alloc (Nat.le_refl _) _)).later ((Below.refl _ _).alloc (Nat.le_refl _) _)
  have XR : Bz (((u.alloc (Obj.cells #[Value.int .i64 7, Value.int .i64 vr, Value.int .i64 A, Value.int .i64 B, Value.int .i64 bw, Value.slice wa wl wc, Value.slice ka kl kc] 63)).alloc (Obj.cells #[Value.int .i64 0, Value.slice none 0 0] 61)).alloc (Obj.cells #[Value.int .i64 0, Value.slice none 0 0] 61)) (u.heap.size + 1) #[Value.int .i64 0, Value.slice none 0 0] 61 := by
    have := (Bz.new (u.alloc (Obj.cells #[Value.int .i64 7, Value.int .i64 vr, Value.int .i64 A, Value.int .i64 B, Value.int .i64 bw, Value.slice wa wl wc, Value.slice ka kl kc] 63)) #[Value.int .i64 0, Value.slice none 0 0] 61).later ((Below.refl _ _).alloc (Nat.le_refl _) (Obj.cells #[Value.int .i64 0, Value.slice none 0 0] 61))
    rw [World.size_alloc] at this
    exact this
  have XQ : Bz (((u.alloc (Obj.cells #[Value.int .i64 7, Value.int .i64 vr, Value.int .i64 A, Value.int .i64 B, Value.int .i64 bw, Value.slice wa wl wc, Value.slice ka kl kc] 63)).alloc (Obj.cells #[Value.int .i64 0, Value.slice none 0 0] 61)).alloc (Obj.cells #[Value.int .i64 0, Value.slice none 0 0] 61)) (u.heap.size + 1 + 1) #[Value.int .i64 0, Value.slice none 0 0] 61 := by
    have := Bz.new ((u.alloc (Obj.cells #[Value.int .i64 7, Value.int .i64 vr, Value.int .i64 A, Value.int .i64 B, Value.int .i64 bw, Value.slice wa wl wc, Value.slice ka kl kc] 63)).alloc (Obj.cells #[Value.int .i64 0, Value.slice none 0 0] 61)) #[Value.int .i64 0, Value.slice none 0 0] 61
    simp only [World.size_alloc] at this
    exact this
  have BW : Below u.heap.size u (((u.alloc (Obj.cells #[Value.int .i64 7, Value.int .i64 vr, Value.int .i64 A, Value.int .i64 B, Value.int .i64 bw, Value.slice wa wl wc, Value.slice ka kl kc] 63)).alloc (Obj.cells #[Value.int .i64 0, Value.slice none 0 0] 61)).alloc (Obj.cells #[Value.int .i64 0, Value.slice none 0 0] 61)) := Ba (Ba (Ba (Below.refl _ _) _) _) _
  have d0 := (kcell BW _ _ (block_lt_of_cell p0)).trans p0
  have d1 := (kcell BW _ _ (block_lt_of_cell p1)).trans p1
  have t0 : (((u.alloc (Obj.cells #[Value.int .i64 7, Value.int .i64 vr, Value.int .i64 A, Value.int .i64 B, Value.int .i64 bw, Value.slice wa wl wc, Value.slice ka kl kc] 63)).alloc (Obj.cells #[Value.int .i64 0, Value.slice none 0 0] 61)).alloc (Obj.cells #[Value.int .i64 0, Value.slice none 0 0] 61)).cell? ⟨u.heap.size, 0, none⟩ = some (.int .i64 7) := XA.cell 0
  have d2 : (((u.alloc (Obj.cells #[Value.int .i64 7, Value.int .i64 vr, Value.int .i64 A, Value.int .i64 B, Value.int .i64 bw, Value.slice wa wl wc, Value.slice ka kl kc] 63)).alloc (Obj.cells #[Value.int .i64 0, Value.slice none 0 0] 61)).alloc (Obj.cells #[Value.int .i64 0, Value.slice none 0 0] 61)).cell? ⟨u.heap.size, 2, none⟩ = some (.int .i64 A) := XA.cell 2
  have m0 := Nat.lt_of_lt_of_le lK BW.size
  have m2 := XA.lt
  try simp only [] at lK m0
  clear p0 p1
  go_enter Tryz.func84, Tryz.ntmps84
  go_wp2_with fail
  generalize (((u.alloc (Obj.cells #[Value.int .i64 7, Value.int .i64 vr, Value.int .i64 A, Value.int .i64 B, Value.int .i64 bw, Value.slice wa wl wc, Value.slice ka kl kc] 63)).alloc (Obj.cells #[Value.int .i64 0, Value.slice none 0 0] 61)).alloc (Obj.cells #[Value.int .i64 0, Value.slice none 0 0] 61)) = w1 at *
  go_region_held_law (fun v => v.cell? ⟨kb, ko, none⟩ = some (.int .i64 wd) ∧ v.cell? ⟨kb, ko + 1, none⟩ = some (.slice xa xs.length xc) ∧ v.cell? ⟨u.heap.size, 2, none⟩ = some (.int .i64 A))
    (first | (refine ⟨?_, ?_, ?_⟩ <;> assumption) | (refine ⟨?_, ?_, ?_⟩ <;> ((first | rw [set2_far _ _ _ _ _ (by simp only []; omega)] | rw [drew2_far _ _ _ _ _ (by simp only []; omega)]); assumption)))
    ((go_at_call 113; refine Calls.mono (HOP.out _ ?_) ?_; exact BW.drew; rintro e w2 ⟨a5, c5, rfl, hf2, hb2⟩; replace hb2 := kundrew hb2; have XR2 := XR.later hb2; have XQ2 := XQ.later hb2; have d0x := (kcell hb2 _ _ m0).trans d0; have d1x := (kcell hb2 _ _ m0).trans d1; have d2x := (kcell hb2 _ _ m2).trans d2; have r0 := XQ2.cell 0; have r1 := XQ2.cell 1; have f50 := XQ2.froz 0; have f51 := XQ2.froz 1; simp at r0 r1; have NW2 := kide ((Fresh.nwE hf2).mono (lo' := u.heap.size) BW.size)))
  have BW2 := BW.trans (hb2.mono BW.size)
  have XQ3 := (XQ2.set 0 (.int .i64 R.1)).set 1 (.slice a5 R.2.1.length c5)
  have XR3 := (XR2.other (c := u.heap.size + 1 + 1) (by omega) 0 (.int .i64 R.1)).other (c := u.heap.size + 1 + 1) (by omega) 1 (.slice a5 R.2.1.length c5)
  have NW3 := (NW2.out.set XQ2 (by decide) 0 (.int .i64 R.1)).set (XQ2.set 0 (.int .i64 R.1)) (by decide) 1 (.slice a5 R.2.1.length c5)
  have BW3 := (BW2.setCell (p := ⟨u.heap.size + 1 + 1, 0, none⟩) (show u.heap.size ≤ u.heap.size + 1 + 1 by omega) (.int .i64 R.1)).setCell (p := ⟨u.heap.size + 1 + 1, 1, none⟩) (show u.heap.size ≤ u.heap.size + 1 + 1 by omega) (.slice a5 R.2.1.length c5)
  have z0 := XQ3.cell 0
  have z1 := XQ3.cell 1
  have s0 := XR3.cell 0
  have s1 := XR3.cell 1
  have g0 := XR3.froz 0
  have g1 := XR3.froz 1
  simp only [List.setIfInBounds_toArray, List.set_cons_zero, List.set_cons_succ, List.getElem?_toArray, List.getElem?_cons_zero, List.getElem?_cons_succ] at z0 z1 s0 s1
  clear r0 r1 f50 f51
  go_wp2_with fail
  obtain ⟨y0, y1⟩ := ((Bz.blk XR3).put0' (.int .i64 R.1)).put1' (.slice a5 R.2.1.length c5) |>.cells
  have HE := RetV.box (W := R.1) (c := c5) (Bz.blk XR3) NW3 (Nat.le_refl _) (Nat.le_succ _) BW3
  refine bodyPost_ret (v := .agg #[.int .i64 R.1, .slice a5 R.2.1.length c5]) (by simp [results, Tryz.results84, go_sem, y0, y1]) rfl ?_
  first | exact HE | exact ⟨a5, c5, rfl, (by obtain ⟨a', c', he, h, -⟩ := HE; cases he; exact h), (by obtain ⟨-, -, -, -, h⟩ := HE; exact h.drew)⟩

set_option maxHeartbeats 2000000 in
set_option maxRecDepth 100000 in
theorem l4Rep_any (va k2 wa ka : Option Addr) (vc kc2 wc kc : Nat) (vs kd : List Bw) (vr A B bw : Int) (ws : List Nat) (ks : List Int) (u : World) (x : Bw) (hd : RdW u k2 kd) (hx : kd[0]? = some x) :
    Calls Tryz.prog 84 #[.slice va vs.length vc, nodA ⟨9, vr, A, B, bw, ws, ks⟩ wa ka wc kc, .slice k2 kd.length kc2] u (RetV u (two (repR x.wd x.ws A))) := by
  have hkl := (List.getElem?_eq_some_iff.1 hx).1
  have hla := hd.1
  obtain ⟨-, h | ⟨kb, ko, rfl, hkc⟩⟩ := hd
  · rw [h] at hkl; simp at hkl
  obtain ⟨p0, p1, hxr, -⟩ := hkc 0 x hx
  rw [Nat.zero_mul, Nat.add_zero] at p0 p1
  have HOP := kide (fun v (hv : Below u.heap.size u v) => specRep_any x.wd x.a x.c x.ws A v (hxr.later hv))
  have hkl' : (0 : Int) < (kd.length : Int) := by omega
  have lK := block_lt_of_cell p0
  obtain ⟨wd, xa, xc, xs⟩ := x
  simp only [nodA, RetB] at *
  clear hkc hx hxr
  generalize hR : repR wd xs A = R at *
  clear hR
  generalize ws.length = wl at *
  generalize ks.length = kl at *
  have XA : Bz (((u.alloc (Obj.cells #[Value.int .i64 9, Value.int .i64 vr, Value.int .i64 A, Value.int .i64 B, Value.int .i64 bw, Value.slice wa wl wc, Value.slice ka kl kc] 63)).alloc (Obj.cells #[Value.int .i64 0, Value.slice none 0 0] 61)).alloc (Obj.cells #[Value.int .i64 0, Value.slice none 0 0] 61)) u.heap.size #[Value.int .i64 9, Value.int .i64 vr, Value.int .i64 A, Value.int .i64 B, Value.int .i64 bw, Value.slice wa wl wc, Value.slice ka kl kc] 63 := ((Bz.new u #[Value.int .i64 9, Value.int .i64 vr, Value.int .i64 A, Value.int .i64 B, Value.int .i64 bw, Value.slice wa wl wc, Value.slice ka kl kc] 63).later ((Below.refl _ _).alloc (Nat.le_refl _) _)).later ((Below.refl _ _).alloc (Nat.le_refl _) _)
  have XR : Bz (((u.alloc (Obj.cells #[Value.int .i64 9, Value.int .i64 vr, Value.int .i64 A, Value.int .i64 B, Value.int .i64 bw, Value.slice wa wl wc, Value.slice ka kl kc] 63)).alloc (Obj.cells #[Value.int .i64 0, Value.slice none 0 0] 61)).alloc (Obj.cells #[Value.int .i64 0, Value.slice none 0 0] 61)) (u.heap.size + 1) #[Value.int .i64 0, Value.slice none 0 0] 61 := by
    have := (Bz.new (u.alloc (Obj.cells #[Value.int .i64 9, Value.int .i64 vr, Value.int .i64 A, Value.int .i64 B, Value.int .i64 bw, Value.slice wa wl wc, Value.slice ka kl kc] 63)) #[Value.int .i64 0, Value.slice none 0 0] 61).later ((Below.refl _ _).alloc (Nat.le_refl _) (Obj.cells #[Value.int .i64 0, Value.slice none 0 0] 61))
    rw [World.size_alloc] at this
    exact this
  have XQ : Bz (((u.alloc (Obj.cells #[Value.int .i64 9, Value.int .i64 vr, Value.int .i64 A, Value.int .i64 B, Value.int .i64 bw, Value.slice wa wl wc, Value.slice ka kl kc] 63)).alloc (Obj.cells #[Value.int .i64 0, Value.slice none 0 0] 61)).alloc (Obj.cells #[Value.int .i64 0, Value.slice none 0 0] 61)) (u.heap.size + 1 + 1) #[Value.int .i64 0, Value.slice none 0 0] 61 := by
    have := Bz.new ((u.alloc (Obj.cells #[Value.int .i64 9, Value.int .i64 vr, Value.int .i64 A, Value.int .i64 B, Value.int .i64 bw, Value.slice wa wl wc, Value.slice ka kl kc] 63)).alloc (Obj.cells #[Value.int .i64 0, Value.slice none 0 0] 61)) #[Value.int .i64 0, Value.slice none 0 0] 61
    simp only [World.size_alloc] at this
    exact this
  have BW : Below u.heap.size u (((u.alloc (Obj.cells #[Value.int .i64 9, Value.int .i64 vr, Value.int .i64 A, Value.int .i64 B, Value.int .i64 bw, Value.slice wa wl wc, Value.slice ka kl kc] 63)).alloc (Obj.cells #[Value.int .i64 0, Value.slice none 0 0] 61)).alloc (Obj.cells #[Value.int .i64 0, Value.slice none 0 0] 61)) := Ba (Ba (Ba (Below.refl _ _) _) _) _
  have d0 := (kcell BW _ _ (block_lt_of_cell p0)).trans p0
  have d1 := (kcell BW _ _ (block_lt_of_cell p1)).trans p1
  have t0 : (((u.alloc (Obj.cells #[Value.int .i64 9, Value.int .i64 vr, Value.int .i64 A, Value.int .i64 B, Value.int .i64 bw, Value.slice wa wl wc, Value.slice ka kl kc] 63)).alloc (Obj.cells #[Value.int .i64 0, Value.slice none 0 0] 61)).alloc (Obj.cells #[Value.int .i64 0, Value.slice none 0 0] 61)).cell? ⟨u.heap.size, 0, none⟩ = some (.int .i64 9) := XA.cell 0
  have d2 : (((u.alloc (Obj.cells #[Value.int .i64 9, Value.int .i64 vr, Value.int .i64 A, Value.int .i64 B, Value.int .i64 bw, Value.slice wa wl wc, Value.slice ka kl kc] 63)).alloc (Obj.cells #[Value.int .i64 0, Value.slice none 0 0] 61)).alloc (Obj.cells #[Value.int .i64 0, Value.slice none 0 0] 61)).cell? ⟨u.heap.size, 2, none⟩ = some (.int .i64 A) := XA.cell 2
  have m0 := Nat.lt_of_lt_of_le lK BW.size
  have m2 := XA.lt
  try simp only [] at lK m0
  clear p0 p1
  go_enter Tryz.func84, Tryz.ntmps84
  go_wp2_with fail
  generalize (((u.alloc (Obj.cells #[Value.int .i64 9, Value.int .i64 vr, Value.int .i64 A, Value.int .i64 B, Value.int .i64 bw, Value.slice wa wl wc, Value.slice ka kl kc] 63)).alloc (Obj.cells #[Value.int .i64 0, Value.slice none 0 0] 61)).alloc (Obj.cells #[Value.int .i64 0, Value.slice none 0 0] 61)) = w1 at *
  go_region_held_law (fun v => v.cell? ⟨kb, ko, none⟩ = some (.int .i64 wd) ∧ v.cell? ⟨kb, ko + 1, none⟩ = some (.slice xa xs.length xc) ∧ v.cell? ⟨u.heap.size, 2, none⟩ = some (.int .i64 A))
    (first | (refine ⟨?_, ?_, ?_⟩ <;> assumption) | (refine ⟨?_, ?_, ?_⟩ <;> ((first | rw [set2_far _ _ _ _ _ (by simp only []; omega)] | rw [drew2_far _ _ _ _ _ (by simp only []; omega)]); assumption)))
    ((go_at_call 114; refine Calls.mono (HOP.out _ ?_) ?_; exact BW.drew; rintro e w2 ⟨a5, c5, rfl, hf2, hb2⟩; replace hb2 := kundrew hb2; have XR2 := XR.later hb2; have XQ2 := XQ.later hb2; have d0x := (kcell hb2 _ _ m0).trans d0; have d1x := (kcell hb2 _ _ m0).trans d1; have d2x := (kcell hb2 _ _ m2).trans d2; have r0 := XQ2.cell 0; have r1 := XQ2.cell 1; have f50 := XQ2.froz 0; have f51 := XQ2.froz 1; simp at r0 r1; have NW2 := kide ((Fresh.nwE hf2).mono (lo' := u.heap.size) BW.size)))
  have BW2 := BW.trans (hb2.mono BW.size)
  have XQ3 := (XQ2.set 0 (.int .i64 R.1)).set 1 (.slice a5 R.2.1.length c5)
  have XR3 := (XR2.other (c := u.heap.size + 1 + 1) (by omega) 0 (.int .i64 R.1)).other (c := u.heap.size + 1 + 1) (by omega) 1 (.slice a5 R.2.1.length c5)
  have NW3 := (NW2.out.set XQ2 (by decide) 0 (.int .i64 R.1)).set (XQ2.set 0 (.int .i64 R.1)) (by decide) 1 (.slice a5 R.2.1.length c5)
  have BW3 := (BW2.setCell (p := ⟨u.heap.size + 1 + 1, 0, none⟩) (show u.heap.size ≤ u.heap.size + 1 + 1 by omega) (.int .i64 R.1)).setCell (p := ⟨u.heap.size + 1 + 1, 1, none⟩) (show u.heap.size ≤ u.heap.size + 1 + 1 by omega) (.slice a5 R.2.1.length c5)
  have z0 := XQ3.cell 0
  have z1 := XQ3.cell 1
  have s0 := XR3.cell 0
  have s1 := XR3.cell 1
  have g0 := XR3.froz 0
  have g1 := XR3.froz 1
  simp only [List.setIfInBounds_toArray, List.set_cons_zero, List.set_cons_succ, List.getElem?_toArray, List.getElem?_cons_zero, List.getElem?_cons_succ] at z0 z1 s0 s1
  clear r0 r1 f50 f51
  go_wp2_with fail
  obtain ⟨y0, y1⟩ := ((Bz.blk XR3).put0' (.int .i64 R.1)).put1' (.slice a5 R.2.1.length c5) |>.cells
  have HE := RetV.box (W := R.1) (c := c5) (Bz.blk XR3) NW3 (Nat.le_refl _) (Nat.le_succ _) BW3
  refine bodyPost_ret (v := .agg #[.int .i64 R.1, .slice a5 R.2.1.length c5]) (by simp [results, Tryz.results84, go_sem, y0, y1]) rfl ?_
  first | exact HE | exact ⟨a5, c5, rfl, (by obtain ⟨a', c', he, h, -⟩ := HE; cases he; exact h), (by obtain ⟨-, -, -, -, h⟩ := HE; exact h.drew)⟩

set_option maxHeartbeats 2000000 in
set_option maxRecDepth 100000 in
theorem l4Right_any (va k2 wa ka : Option Addr) (vc kc2 wc kc : Nat) (vs kd : List Bw) (vr A B bw : Int) (ws : List Nat) (ks : List Int) (u : World) (x : Bw) (hd : RdW u k2 kd) (hx : kd[0]? = some x) (hok : okWd x.ct) (ha : 0 ≤ A ∧ A ≤ 4096) :
    Calls Tryz.prog 84 #[.slice va vs.length vc, nodA ⟨8, vr, A, B, bw, ws, ks⟩ wa ka wc kc, .slice k2 kd.length kc2] u (RetV u (two (turnR x.wd x.ws ((x.wd - A % x.wd) % x.wd)))) := by
  have hkl := (List.getElem?_eq_some_iff.1 hx).1
  have hla := hd.1
  obtain ⟨-, h | ⟨kb, ko, rfl, hkc⟩⟩ := hd
  · rw [h] at hkl; simp at hkl
  obtain ⟨p0, p1, hxr, -⟩ := hkc 0 x hx
  rw [Nat.zero_mul, Nat.add_zero] at p0 p1
  have HOP := kide (fun v (hv : Below u.heap.size u v) => specTurn_any x.wd x.a x.c x.ws ((x.wd - A % x.wd) % x.wd) v (hxr.later hv))
  have hkl' : (0 : Int) < (kd.length : Int) := by omega
  have lK := block_lt_of_cell p0
  obtain ⟨wd, xa, xc, xs⟩ := x
  simp only [nodA, RetB] at *
  have hw1 := right_W hok.1
  try simp only [Bw.ct] at hw1
  have hm1 := Int.emod_nonneg A (show wd ≠ 0 by omega)
  have hm2 := Int.emod_lt_of_pos A (show 0 < wd by omega)
  obtain ⟨r, hr⟩ := Int.eq_ofNat_of_zero_le hm1
  obtain ⟨q, hq⟩ := Int.eq_ofNat_of_zero_le (show 0 ≤ wd - A % wd by omega)
  have hn1 := Int.emod_nonneg (q : Int) (show wd ≠ 0 by omega)
  have hn2 := Int.emod_lt_of_pos (q : Int) (show 0 < wd by omega)
  obtain ⟨s, hs⟩ := Int.eq_ofNat_of_zero_le hn1
  rw [hq, hs] at HOP ⊢
  rw [hr] at hq
  have hwz : ¬ wd = 0 := by omega
  have htm : A.tmod wd = (r : Int) := by rw [Int.tmod_eq_emod_of_nonneg ha.1]; exact hr
  have htn : (q : Int).tmod wd = (s : Int) := by rw [Int.tmod_eq_emod_of_nonneg (by omega)]; exact hs
  have wr1 : IntKind.i64.wrap (r : Int) = (r : Int) := by rw [IntKind.wrap_i64]; omega
  have wq1 : IntKind.i64.wrap (q : Int) = (q : Int) := by rw [IntKind.wrap_i64]; omega
  have ws1 : IntKind.i64.wrap (s : Int) = (s : Int) := by rw [IntKind.wrap_i64]; omega
  clear hok hm1 hm2 hn1 hn2
  clear hkc hx hxr
  generalize hR : turnR wd xs (s : Int) = R at *
  clear hR
  generalize ws.length = wl at *
  generalize ks.length = kl at *
  have XA : Bz (((u.alloc (Obj.cells #[Value.int .i64 8, Value.int .i64 vr, Value.int .i64 A, Value.int .i64 B, Value.int .i64 bw, Value.slice wa wl wc, Value.slice ka kl kc] 63)).alloc (Obj.cells #[Value.int .i64 0, Value.slice none 0 0] 61)).alloc (Obj.cells #[Value.int .i64 0, Value.slice none 0 0] 61)) u.heap.size #[Value.int .i64 8, Value.int .i64 vr, Value.int .i64 A, Value.int .i64 B, Value.int .i64 bw, Value.slice wa wl wc, Value.slice ka kl kc] 63 := ((Bz.new u #[Value.int .i64 8, Value.int .i64 vr, Value.int .i64 A, Value.int .i64 B, Value.int .i64 bw, Value.slice wa wl wc, Value.slice ka kl kc] 63).later ((Below.refl _ _).alloc (Nat.le_refl _) _)).later ((Below.refl _ _).alloc (Nat.le_refl _) _)
  have XR : Bz (((u.alloc (Obj.cells #[Value.int .i64 8, Value.int .i64 vr, Value.int .i64 A, Value.int .i64 B, Value.int .i64 bw, Value.slice wa wl wc, Value.slice ka kl kc] 63)).alloc (Obj.cells #[Value.int .i64 0, Value.slice none 0 0] 61)).alloc (Obj.cells #[Value.int .i64 0, Value.slice none 0 0] 61)) (u.heap.size + 1) #[Value.int .i64 0, Value.slice none 0 0] 61 := by
    have := (Bz.new (u.alloc (Obj.cells #[Value.int .i64 8, Value.int .i64 vr, Value.int .i64 A, Value.int .i64 B, Value.int .i64 bw, Value.slice wa wl wc, Value.slice ka kl kc] 63)) #[Value.int .i64 0, Value.slice none 0 0] 61).later ((Below.refl _ _).alloc (Nat.le_refl _) (Obj.cells #[Value.int .i64 0, Value.slice none 0 0] 61))
    rw [World.size_alloc] at this
    exact this
  have XQ : Bz (((u.alloc (Obj.cells #[Value.int .i64 8, Value.int .i64 vr, Value.int .i64 A, Value.int .i64 B, Value.int .i64 bw, Value.slice wa wl wc, Value.slice ka kl kc] 63)).alloc (Obj.cells #[Value.int .i64 0, Value.slice none 0 0] 61)).alloc (Obj.cells #[Value.int .i64 0, Value.slice none 0 0] 61)) (u.heap.size + 1 + 1) #[Value.int .i64 0, Value.slice none 0 0] 61 := by
    have := Bz.new ((u.alloc (Obj.cells #[Value.int .i64 8, Value.int .i64 vr, Value.int .i64 A, Value.int .i64 B, Value.int .i64 bw, Value.slice wa wl wc, Value.slice ka kl kc] 63)).alloc (Obj.cells #[Value.int .i64 0, Value.slice none 0 0] 61)) #[Value.int .i64 0, Value.slice none 0 0] 61
    simp only [World.size_alloc] at this
    exact this
  have BW : Below u.heap.size u (((u.alloc (Obj.cells #[Value.int .i64 8, Value.int .i64 vr, Value.int .i64 A, Value.int .i64 B, Value.int .i64 bw, Value.slice wa wl wc, Value.slice ka kl kc] 63)).alloc (Obj.cells #[Value.int .i64 0, Value.slice none 0 0] 61)).alloc (Obj.cells #[Value.int .i64 0, Value.slice none 0 0] 61)) := Ba (Ba (Ba (Below.refl _ _) _) _) _
  have d0 := (kcell BW _ _ (block_lt_of_cell p0)).trans p0
  have d1 := (kcell BW _ _ (block_lt_of_cell p1)).trans p1
  have t0 : (((u.alloc (Obj.cells #[Value.int .i64 8, Value.int .i64 vr, Value.int .i64 A, Value.int .i64 B, Value.int .i64 bw, Value.slice wa wl wc, Value.slice ka kl kc] 63)).alloc (Obj.cells #[Value.int .i64 0, Value.slice none 0 0] 61)).alloc (Obj.cells #[Value.int .i64 0, Value.slice none 0 0] 61)).cell? ⟨u.heap.size, 0, none⟩ = some (.int .i64 8) := XA.cell 0
  have d2 : (((u.alloc (Obj.cells #[Value.int .i64 8, Value.int .i64 vr, Value.int .i64 A, Value.int .i64 B, Value.int .i64 bw, Value.slice wa wl wc, Value.slice ka kl kc] 63)).alloc (Obj.cells #[Value.int .i64 0, Value.slice none 0 0] 61)).alloc (Obj.cells #[Value.int .i64 0, Value.slice none 0 0] 61)).cell? ⟨u.heap.size, 2, none⟩ = some (.int .i64 A) := XA.cell 2
  have m0 := Nat.lt_of_lt_of_le lK BW.size
  have m2 := XA.lt
  try simp only [] at lK m0
  clear p0 p1
  go_enter Tryz.func84, Tryz.ntmps84
  go_wp2_with fail
  generalize (((u.alloc (Obj.cells #[Value.int .i64 8, Value.int .i64 vr, Value.int .i64 A, Value.int .i64 B, Value.int .i64 bw, Value.slice wa wl wc, Value.slice ka kl kc] 63)).alloc (Obj.cells #[Value.int .i64 0, Value.slice none 0 0] 61)).alloc (Obj.cells #[Value.int .i64 0, Value.slice none 0 0] 61)) = w1 at *
  go_region_held_law (fun v => v.cell? ⟨kb, ko, none⟩ = some (.int .i64 wd) ∧ v.cell? ⟨kb, ko + 1, none⟩ = some (.slice xa xs.length xc) ∧ v.cell? ⟨u.heap.size, 2, none⟩ = some (.int .i64 A))
    (first | (refine ⟨?_, ?_, ?_⟩ <;> assumption) | (refine ⟨?_, ?_, ?_⟩ <;> ((first | rw [set2_far _ _ _ _ _ (by simp only []; omega)] | rw [drew2_far _ _ _ _ _ (by simp only []; omega)]); assumption)))
    ((go_at_call 113; refine Calls.mono (HOP.out _ ?_) ?_; exact BW.drew; rintro e w2 ⟨a5, c5, rfl, hf2, hb2⟩; replace hb2 := kundrew hb2; have XR2 := XR.later hb2; have XQ2 := XQ.later hb2; have d0x := (kcell hb2 _ _ m0).trans d0; have d1x := (kcell hb2 _ _ m0).trans d1; have d2x := (kcell hb2 _ _ m2).trans d2; have r0 := XQ2.cell 0; have r1 := XQ2.cell 1; have f50 := XQ2.froz 0; have f51 := XQ2.froz 1; simp at r0 r1; have NW2 := kide ((Fresh.nwE hf2).mono (lo' := u.heap.size) BW.size)))
  have BW2 := BW.trans (hb2.mono BW.size)
  have XQ3 := (XQ2.set 0 (.int .i64 R.1)).set 1 (.slice a5 R.2.1.length c5)
  have XR3 := (XR2.other (c := u.heap.size + 1 + 1) (by omega) 0 (.int .i64 R.1)).other (c := u.heap.size + 1 + 1) (by omega) 1 (.slice a5 R.2.1.length c5)
  have NW3 := (NW2.out.set XQ2 (by decide) 0 (.int .i64 R.1)).set (XQ2.set 0 (.int .i64 R.1)) (by decide) 1 (.slice a5 R.2.1.length c5)
  have BW3 := (BW2.setCell (p := ⟨u.heap.size + 1 + 1, 0, none⟩) (show u.heap.size ≤ u.heap.size + 1 + 1 by omega) (.int .i64 R.1)).setCell (p := ⟨u.heap.size + 1 + 1, 1, none⟩) (show u.heap.size ≤ u.heap.size + 1 + 1 by omega) (.slice a5 R.2.1.length c5)
  have z0 := XQ3.cell 0
  have z1 := XQ3.cell 1
  have s0 := XR3.cell 0
  have s1 := XR3.cell 1
  have g0 := XR3.froz 0
  have g1 := XR3.froz 1
  simp only [List.setIfInBounds_toArray, List.set_cons_zero, List.set_cons_succ, List.getElem?_toArray, List.getElem?_cons_zero, List.getElem?_cons_succ] at z0 z1 s0 s1
  clear r0 r1 f50 f51
  go_wp2_with fail
  obtain ⟨y0, y1⟩ := ((Bz.blk XR3).put0' (.int .i64 R.1)).put1' (.slice a5 R.2.1.length c5) |>.cells
  have HE := RetV.box (W := R.1) (c := c5) (Bz.blk XR3) NW3 (Nat.le_refl _) (Nat.le_succ _) BW3
  refine bodyPost_ret (v := .agg #[.int .i64 R.1, .slice a5 R.2.1.length c5]) (by simp [results, Tryz.results84, go_sem, y0, y1]) rfl ?_
  first | exact HE | exact ⟨a5, c5, rfl, (by obtain ⟨a', c', he, h, -⟩ := HE; cases he; exact h), (by obtain ⟨-, -, -, -, h⟩ := HE; exact h.drew)⟩

end Go.Proofs.YtdlmgndmfphneaaGreatDoor
