/- Several texts in one. -/
import Derived.Test.YtckidgpopbpagaaGreatDoorZGAO
import Derived.Handy
import Derived.Test.YtckidgpopbpagaaGreatDoorZGAM
import Derived.Test.YtckidgpopbpagaaGreatDoorZGAP
import Derived.Test.YtckidgpopbpagaaGreatDoorZGAP

/- The bits of a node that widens, on the given side. -/
namespace Go.Proofs.YtckidgpopbpagaaGreatDoor
set_option linter.unusedVariables false
set_option linter.unusedSimpArgs false
open Go.RowKit

/-- What is at hand while a node is widened: also the bit that goes on top. -/
structure Nt (w : World) (cs : Array Value) (t : Ib) (v : Value) (l : List Ib) (wr : World) : Prop where
  nb : Nb w cs v l wr
  tp : Bz wr (w.heap.size + 1 + 1) #[Value.int .i64 t.1, Value.int .i64 t.2] 78
  no : v.ownBlock ≠ some (w.heap.size + 1 + 1)
theorem Nt.later {w wr u : World} {cs : Array Value} {t : Ib} {v : Value} {l : List Ib} (h : Nt w cs t v l wr) (hb : Below wr.heap.size wr u) : Nt w cs t v l u := ⟨h.nb.later hb, h.tp.later hb, h.no⟩
theorem Nt.app {w u w' : World} {cs : Array Value} {t : Ib} {v v' : Value} {l m : List Ib} {H : Nat} (h : Nt w cs t v l u) (ho : OL5 w' (w.heap.size + 1) v' (l ++ m)) (hg : u.grownBy w' v.ownBlock) (hat : v'.ownBlock = v.ownBlock ∨ v'.ownBlock = some H) (hH : u.heap.size = H) : Nt w cs t v' (l ++ m) w' := by
  have hlt := h.tp.lt
  refine ⟨h.nb.app ho hg, ?_, ?_⟩
  · have hb := h.tp
    unfold Bz at hb ⊢
    rw [hg.block _ hlt (fun e => h.no e.symm)]
    exact hb
  · rcases hat with e | e
    · rw [e]; exact h.no
    · rw [e]
      intro e2
      have := Option.some.inj e2
      omega
theorem Nt.start (w : World) (cs : Array Value) (t : Ib) : Nt w cs t (.slice (some ⟨w.heap.size + 1, 0, none⟩) 0 0) [] (((w.alloc (Obj.cells cs 62)).alloc (Obj.cells #[] 78)).alloc (Obj.cells #[Value.int .i64 t.1, Value.int .i64 t.2] 78)) := by
  refine ⟨(Nb.start w cs).later ((Below.refl _ _).alloc (Nat.le_refl _) _), ?_, ?_⟩
  · have h9 := Bz.new ((w.alloc (Obj.cells cs 62)).alloc (Obj.cells #[] 78)) #[Value.int .i64 t.1, Value.int .i64 t.2] 78
    simp only [World.size_alloc] at h9
    exact h9
  · simp [Value.ownBlock]
theorem Nt.at0 {w Y : World} {cs : Array Value} {t : Ib} {b0 : Nat} (h : Nt w cs t (.slice (some ⟨w.heap.size + 1, 0, none⟩) 0 0) [] Y) (e : w.heap.size = b0) : Nt w cs t (.slice (some ⟨b0 + 1, 0, none⟩) 0 0) [] Y := by rw [← e]; exact h
theorem Nt.tpc {w Y : World} {cs : Array Value} {t : Ib} {v : Value} {l : List Ib} {b0 : Nat} (h : Nt w cs t v l Y) (e : w.heap.size = b0) (i : Nat) : Y.cell? ⟨b0 + 1 + 1, i, none⟩ = #[Value.int .i64 t.1, Value.int .i64 t.2][i]? := by rw [← e]; exact h.tp.cell i
theorem Nt.tpf {w Y : World} {cs : Array Value} {t : Ib} {v : Value} {l : List Ib} {b0 : Nat} (h : Nt w cs t v l Y) (e : w.heap.size = b0) (i : Nat) : Y.frozen? ⟨b0 + 1 + 1, i, none⟩ = false := by rw [← e]; exact h.tp.froz i
theorem OL5.other {w w' : World} {B : Nat} {v : Value} {l : List Ib} (h : OL5 w B v l) (hw : ∀ g, v.ownBlock = some g → w'.heap[g]? = w.heap[g]?) : OL5 w' B v l := by
  obtain ⟨h1, h2⟩ := h
  refine ⟨h1, ?_⟩
  rcases h2 with h2 | ⟨g, cap, cur, rfl, hg, hh, r⟩
  · exact .inl h2
  · exact .inr ⟨g, cap, cur, rfl, hg, by rw [hw g rfl]; exact hh, r⟩
theorem Nt.below {w Y : World} {cs : Array Value} {t : Ib} {v : Value} {l : List Ib} {b0 : Nat} (h : Nt w cs t v l Y) (e : w.heap.size = b0) (t1 t2 : Int) : Below w.heap.size w ((Y.setCell ⟨b0 + 1 + 1, 0, none⟩ (.int .i64 t1)).setCell ⟨b0 + 1 + 1, 1, none⟩ (.int .i64 t2)) := by
  subst e
  exact (h.nb.bel.setCell (by simp; omega) _).setCell (by simp; omega) _
theorem Nt.set {w Y : World} {cs : Array Value} {t : Ib} {v : Value} {l : List Ib} {b0 : Nat} (h : Nt w cs t v l Y) (e : w.heap.size = b0) (t1 t2 : Int) : Nt w cs (t1, t2) v l ((Y.setCell ⟨b0 + 1 + 1, 0, none⟩ (.int .i64 t1)).setCell ⟨b0 + 1 + 1, 1, none⟩ (.int .i64 t2)) := by
  have hb := h.below e t1 t2
  subst e
  refine ⟨⟨(h.nb.bx.other (by omega) _ _).other (by omega) _ _, h.nb.row.other (fun g hg => ?_), hb⟩, (h.tp.set 0 _).set 1 _, h.no⟩
  have hne : g ≠ w.heap.size + 1 + 1 := fun e => h.no (by rw [hg, e])
  rw [heap_setCell_other _ _ _ _ (by simpa using hne), heap_setCell_other _ _ _ _ (by simpa using hne)]
theorem rdp_one {w : World} {b : Nat} {t : Ib} {ty : TypeId} (h : Bz w b #[Value.int .i64 t.1, Value.int .i64 t.2] ty) : RdP w (some ⟨b, 0, none⟩) [t] := by
  refine ⟨by simp, .inr ⟨b, 0, rfl, fun i p hp => ?_⟩⟩
  match i, hp with
  | 0, hp =>
    obtain rfl : t = p := by simpa using hp
    exact ⟨h.cell 0, h.cell 1⟩
theorem rdp_at {w : World} {b o i : Nat} {ps : List Ib} {p : Ib} (h : RdP w (some ⟨b, o, none⟩) ps) (hp : ps[i]? = some p) : w.cell? ⟨b, o + i * 2, none⟩ = some (.int .i64 p.1) ∧ w.cell? ⟨b, o + i * 2 + 1, none⟩ = some (.int .i64 p.2) := by
  rcases h.2 with h | ⟨b', o', e, hc⟩
  · rw [h] at hp; simp at hp
  · cases e
    exact hc i p hp
theorem rpl_snoc (ps : List Ib) (t : Ib) (k : Nat) : ps ++ List.replicate k t ++ [t] = ps ++ List.replicate (k + 1) t := by rw [List.replicate_succ', List.append_assoc]

set_option maxHeartbeats 2000000 in
set_option maxRecDepth 100000 in
theorem l5n5 {da wa ka aa : Option Addr} {dc nd nw wc nk kc na ac An : Nat} {ps : List Ib} {vr Bb bw : Int} {w : World} (hk : Kb w aa [ps]) (hna : na = 1) (hA : An ≤ 4096) (hl : ps.length ≤ 4096) :
    Calls Tryz.prog 24 #[.slice da nd dc, .agg #[.int .i64 5, .int .i64 vr, .int .i64 (An : Int), .int .i64 Bb, .int .i64 bw, .slice wa nw wc, .slice ka nk kc], .slice aa na ac] w (RetNb (ps ++ List.replicate An (-1, 0)) w) := by
  subst hna
  have S0 := kide (Nt.start w #[Value.int .i64 5, Value.int .i64 vr, Value.int .i64 (An : Int), Value.int .i64 Bb, Value.int .i64 bw, Value.slice wa nw wc, Value.slice ka nk kc] (-1, 0))
  obtain ⟨ab, ao, rfl, hk⟩ := hk
  obtain ⟨g, o, c, k1, k2, k3⟩ := hk 0 ps rfl
  rw [Nat.add_zero] at k1
  have HL := kide hl
  have lab := block_lt_of_cell k1
  obtain ⟨KL, hKL⟩ : ∃ n, ps.length = n := ⟨_, rfl⟩
  rw [hKL] at k2 k1
  have HKL := kide hKL
  have y1 := (S0.out.nb.bel.cell (p := ⟨ab, ao, none⟩) lab).trans k1
  have RP := kide (k3.later S0.out.nb.bel)
  have hll : ([] : List Ib).length + ps.length ≤ 1073741824 := by simp; omega
  have hsz : w.heap.size + 1 ≤ (((w.alloc (Obj.cells #[Value.int .i64 5, Value.int .i64 vr, Value.int .i64 (An : Int), Value.int .i64 Bb, Value.int .i64 bw, Value.slice wa nw wc, Value.slice ka nk kc] 62)).alloc (Obj.cells #[] 78)).alloc (Obj.cells #[Value.int .i64 (-1), Value.int .i64 0] 78)).heap.size := by simp
  clear hk hl hKL k3
  go_enter Tryz.func24, Tryz.ntmps24
  go_wp2_with (refine wpList_appL5t rfl _ _ rfl (w.heap.size + 1) _ [] ps rfl S0.out.nb.row g o KL c rfl HKL.out RP.out hll hsz ?_)
  intro v6 w6 ho6 hg6 hat6
  have N6 := kide (S0.out.app ho6 hg6 hat6 (by simp))
  rw [List.nil_append] at N6
  clear ho6 hg6 hat6
  go_wp2_with fail
  go_loopw [7, 12] (fun v i wr => ∃ k : Nat, k ≤ An ∧ i = .int .i64 (k : Int) ∧ Nt w #[Value.int .i64 5, Value.int .i64 vr, Value.int .i64 (An : Int), Value.int .i64 Bb, Value.int .i64 bw, Value.slice wa nw wc, Value.slice ka nk kc] (-1, 0) v (ps ++ List.replicate k (-1, 0)) wr) (fun _ i _ => An - (intOf i).toNat)
  case atStart => exact ⟨0, Nat.zero_le _, rfl, by rw [List.replicate_zero, List.append_nil]; exact N6.out⟩
  case round =>
    obtain ⟨k, hk, rfl, hnb⟩ := hrel
    have c2 := hnb.nb.bx.cell 2
    have t0 := hnb.tp.cell 0
    have t1 := hnb.tp.cell 1
    simp at c2 t0 t1
    have HNB := kide hnb
    have lbx := hnb.nb.bx.lt
    have ltp := hnb.tp.lt
    clear hnb
    by_cases hlt : k < An
    · have q1 : (k : Int) < (An : Int) := by omega
      have q2 : IntKind.i64.wrap ((k : Int) + 1) = (k : Int) + 1 := by rw [IntKind.wrap_i64]; omega
      have BA : Hid (Below wr.heap.size wr (wr.alloc (Obj.cells #[Value.int .i64 (-1), Value.int .i64 0] 78))) := (Below.refl _ _).alloc (Nat.le_refl _) _
      have XA := kide (rdp_one (t := (-1, 0)) (Bz.new wr #[Value.int .i64 (-1), Value.int .i64 0] 78))
      have NA := kide (HNB.out.later BA.out)
      have hll2 : (ps ++ List.replicate k ((-1, 0) : Ib)).length + [((-1, 0) : Ib)].length ≤ 1073741824 := by have := HL.out; simp; omega
      have hsz2 : w.heap.size + 1 ≤ (wr.alloc (Obj.cells #[Value.int .i64 (-1), Value.int .i64 0] 78)).heap.size := by simp; omega
      go_wp2_with (refine wpList_appL5t rfl _ _ rfl (w.heap.size + 1) _ (ps ++ List.replicate k ((-1, 0) : Ib)) [(-1, 0)] rfl NA.out.nb.row wr.heap.size 0 1 _ rfl rfl XA.out hll2 hsz2 ?_)
      intro v7 w7 ho7 hg7 hat7
      rw [← List.append_assoc] at ho7
      have N7 := kide (NA.out.app ho7 hg7 hat7 (by simp))
      rw [rpl_snoc] at N7
      clear ho7 hg7 hat7
      go_wp2_with fail
      go_roundw
      case rel => exact ⟨k + 1, by omega, rfl, N7.out⟩
      case measure => simp only [intOf]; omega
    · obtain rfl : k = An := by omega
      go_wp2_with fail
      exact bodyPost_ret (v := u7) (by simp [results, Tryz.results24, go_sem]) rfl ⟨u7, rfl, HNB.out.nb.row.lowB (Nat.le_succ _), HNB.out.nb.bel⟩
set_option maxHeartbeats 2000000 in
set_option maxRecDepth 100000 in
theorem l5n6 {da wa ka aa : Option Addr} {dc nd nw wc nk kc na ac An : Nat} {ps : List Ib} {t : Ib} {vr Bb bw : Int} {w : World} (hk : Kb w aa [ps]) (hna : na = 1) (hA : An ≤ 4096) (hl : ps.length ≤ 4096) (ht : ps[ps.length - 1]? = some t) :
    Calls Tryz.prog 24 #[.slice da nd dc, .agg #[.int .i64 6, .int .i64 vr, .int .i64 (An : Int), .int .i64 Bb, .int .i64 bw, .slice wa nw wc, .slice ka nk kc], .slice aa na ac] w (RetNb (ps ++ List.replicate An t) w) := by
  subst hna
  have S0 := kide (Nt.start w #[Value.int .i64 6, Value.int .i64 vr, Value.int .i64 (An : Int), Value.int .i64 Bb, Value.int .i64 bw, Value.slice wa nw wc, Value.slice ka nk kc] (-1, 0))
  obtain ⟨ab, ao, rfl, hk⟩ := hk
  obtain ⟨g, o, c, k1, k2, k3⟩ := hk 0 ps rfl
  rw [Nat.add_zero] at k1
  have hp9 : 0 < ps.length := by
    have := (List.getElem?_eq_some_iff.1 ht).1
    omega
  obtain ⟨T, hT⟩ : ∃ T, ps.length = T + 1 := ⟨ps.length - 1, by omega⟩
  rw [show ps.length - 1 = T by omega] at ht
  obtain ⟨z1, z2⟩ := rdp_at k3 ht
  have HL := kide hl
  have lab := block_lt_of_cell k1
  obtain ⟨KL, hKL⟩ : ∃ n, ps.length = n := ⟨_, rfl⟩
  rw [hKL] at k2 k1
  have HKL := kide hKL
  have y1 := (S0.out.nb.bel.cell (p := ⟨ab, ao, none⟩) lab).trans k1
  have lg := block_lt_of_cell z1
  have y2 := (S0.out.nb.bel.cell (p := ⟨g, o + T * 2, none⟩) lg).trans z1
  have y3 := (S0.out.nb.bel.cell (p := ⟨g, o + T * 2 + 1, none⟩) lg).trans z2
  have RP := kide (k3.later S0.out.nb.bel)
  have hll : ([] : List Ib).length + ps.length ≤ 1073741824 := by simp; omega
  have hsz : w.heap.size + 1 ≤ (((w.alloc (Obj.cells #[Value.int .i64 6, Value.int .i64 vr, Value.int .i64 (An : Int), Value.int .i64 Bb, Value.int .i64 bw, Value.slice wa nw wc, Value.slice ka nk kc] 62)).alloc (Obj.cells #[] 78)).alloc (Obj.cells #[Value.int .i64 (-1), Value.int .i64 0] 78)).heap.size := by simp
  have e1 : IntKind.i64.wrap ((KL : Int) - 1) = (T : Int) := by rw [IntKind.wrap_i64]; omega
  have e2 : (T : Int) < (KL : Int) := by omega
  have e3 : T < KL := by omega
  have K3 := kide k3
  clear hk hl hKL k3 hT hp9 ht z1 z2 k1
  go_enter Tryz.func24, Tryz.ntmps24
  go_wp2_with fail
  generalize (((w.alloc (Obj.cells #[Value.int .i64 6, Value.int .i64 vr, Value.int .i64 (An : Int), Value.int .i64 Bb, Value.int .i64 bw, Value.slice wa nw wc, Value.slice ka nk kc] 62)).alloc (Obj.cells #[] 78)).alloc (Obj.cells #[Value.int .i64 (-1), Value.int .i64 0] 78)) = Y at *
  obtain ⟨b0, hb0⟩ : ∃ b0, w.heap.size = b0 := ⟨_, rfl⟩
  have HB0 := kide hb0
  have S1 := kide (S0.out.at0 hb0)
  have laY : ab < Y.heap.size := Nat.lt_of_lt_of_le lab S0.out.nb.bel.size
  have lgY : g < Y.heap.size := Nat.lt_of_lt_of_le lg S0.out.nb.bel.size
  have lab0 : ab < b0 := by rw [← hb0]; exact lab
  simp only [hb0]
  clear hb0 S0
  refine wp_region_x (SA := fun uu => uu.cell? ⟨ab, ao, none⟩ = some (Value.slice (some ⟨g, o, none⟩) KL c) ∧ uu.cell? ⟨g, o + T * 2, none⟩ = some (Value.int .i64 t.1) ∧ uu.cell? ⟨g, o + T * 2 + 1, none⟩ = some (Value.int .i64 t.2)) (SB := fun _ => True) (k := 10) (by kernel_rfl) ?_
  have hn0 : Hid (Below Y.heap.size Y Y.drew) := (Below.refl _ _).drew
  have c0_0 := (hn0.out.cell (p := ⟨ab, ao, none⟩) laY).trans y1
  have c1_0 := (hn0.out.cell (p := ⟨g, o + T * 2, none⟩) lgY).trans y2
  have c2_0 := (hn0.out.cell (p := ⟨g, o + T * 2 + 1, none⟩) lgY).trans y3
  generalize Y.drew = n0 at *
  have hs0 : Hid ((fun uu => uu.cell? ⟨ab, ao, none⟩ = some (Value.slice (some ⟨g, o, none⟩) KL c) ∧ uu.cell? ⟨g, o + T * 2, none⟩ = some (Value.int .i64 t.1) ∧ uu.cell? ⟨g, o + T * 2 + 1, none⟩ = some (Value.int .i64 t.2)) n0) := ⟨c0_0, c1_0, c2_0⟩
  try go_simp
  refine wpAnyX_both (T := fun _ => True) (i := 0) (v := Value.slice (some ⟨ab, ao, none⟩) 1 ac) rfl (by kernel_rfl) (by kernel_rfl) (by kernel_rfl) (fun _ _ _ h => by first | exact h | exact h.elim) (by decide) (fun _ _ => trivial) (fun _ _ => trivial) (Sx.before (by kernel_rfl) hs0.out) (Or.inl ⟨by rfl, fun uu hu => by go_simp⟩) ?_
  try go_simp
  refine wpAnyX_both (T := fun _ => True) (i := 1) (v := Value.pointer (some ⟨ab, ao, none⟩)) rfl (by kernel_rfl) (by kernel_rfl) (by kernel_rfl) (fun _ _ _ h => by first | exact h | exact h.elim) (by decide) (fun _ _ => trivial) (fun _ _ => trivial) (Sx.before (by kernel_rfl) hs0.out) (Or.inl ⟨by rfl, fun uu hu => by go_simp⟩) ?_
  try go_simp
  refine wpAnyX_take (i := 2) (v := Value.slice (some ⟨g, o, none⟩) KL c) rfl (by kernel_rfl) (by kernel_rfl) (by kernel_rfl) (fun _ _ _ h => by first | exact h | exact h.elim) (by decide) (by kernel_rfl) (by kernel_rfl) hs0.out (Or.inl ⟨by rfl, fun uu hu => by obtain ⟨e0, e1, e2⟩ := hu; go_simp⟩) ?_
  try go_simp
  refine wpAnyX_both (T := fun _ => True) (i := 3) (v := Value.slice (some ⟨ab, ao, none⟩) 1 ac) rfl (by kernel_rfl) (by kernel_rfl) (by kernel_rfl) (fun _ _ _ h => by first | exact h | exact h.elim) (by decide) (fun _ _ => trivial) (fun _ _ => trivial) (Sx.before (by kernel_rfl) hs0.out) (Or.inl ⟨by rfl, fun uu hu => by go_simp⟩) ?_
  try go_simp
  refine wpAnyX_both (T := fun _ => True) (i := 4) (v := Value.pointer (some ⟨ab, ao, none⟩)) rfl (by kernel_rfl) (by kernel_rfl) (by kernel_rfl) (fun _ _ _ h => by first | exact h | exact h.elim) (by decide) (fun _ _ => trivial) (fun _ _ => trivial) (Sx.before (by kernel_rfl) hs0.out) (Or.inl ⟨by rfl, fun uu hu => by go_simp⟩) ?_
  try go_simp
  refine wpAnyX_take (i := 5) (v := Value.slice (some ⟨g, o, none⟩) KL c) rfl (by kernel_rfl) (by kernel_rfl) (by kernel_rfl) (fun _ _ _ h => by first | exact h | exact h.elim) (by decide) (by kernel_rfl) (by kernel_rfl) hs0.out (Or.inl ⟨by rfl, fun uu hu => by obtain ⟨e0, e1, e2⟩ := hu; go_simp⟩) ?_
  try go_simp
  refine wpAnyX_both (T := fun _ => True) (i := 6) (v := Value.int .i64 (KL : Int)) rfl (by kernel_rfl) (by kernel_rfl) (by kernel_rfl) (fun _ _ _ h => by first | exact h | exact h.elim) (by decide) (fun _ _ => trivial) (fun _ _ => trivial) (Sx.before (by kernel_rfl) hs0.out) (Or.inl ⟨by rfl, fun uu hu => by go_simp⟩) ?_
  try go_simp
  refine wpAnyX_both (T := fun _ => True) (i := 7) (v := Value.int .i64 (T : Int)) rfl (by kernel_rfl) (by kernel_rfl) (by kernel_rfl) (fun _ _ _ h => by first | exact h | exact h.elim) (by decide) (fun _ _ => trivial) (fun _ _ => trivial) (Sx.before (by kernel_rfl) hs0.out) (Or.inl ⟨by rfl, fun uu hu => by go_simp⟩) ?_
  try go_simp
  refine wpAnyX_both (T := fun _ => True) (i := 8) (v := Value.pointer (some ⟨g, o + T * 2, none⟩)) rfl (by kernel_rfl) (by kernel_rfl) (by kernel_rfl) (fun _ _ _ h => by first | exact h | exact h.elim) (by decide) (fun _ _ => trivial) (fun _ _ => trivial) (Sx.before (by kernel_rfl) hs0.out) (Or.inl ⟨by rfl, fun uu hu => by go_simp⟩) ?_
  try go_simp
  refine wpAnyX_take (i := 9) (v := Value.agg #[Value.int .i64 t.1, Value.int .i64 t.2]) rfl (by kernel_rfl) (by kernel_rfl) (by kernel_rfl) (fun _ _ _ h => by first | exact h | exact h.elim) (by decide) (by kernel_rfl) (by kernel_rfl) hs0.out (Or.inl ⟨by rfl, fun uu hu => by obtain ⟨e0, e1, e2⟩ := hu; go_simp⟩) ?_
  try go_simp
  refine wpAnyX_ready (rs := [10]) (by kernel_rfl) (by simp) (AllX.cons rfl (fun K hK => ?_) AllX.nil)
  have NY := kide (S1.out.later hn0.out)
  have e0 := NY.out.tpc HB0.out 0
  have f0 := NY.out.tpf HB0.out 0
  have e9 := NY.out.tpc HB0.out 1
  have f9 := NY.out.tpf HB0.out 1
  simp at e0 e9
  go_simp
  have N1 := kide (NY.out.set HB0.out t.1 t.2)
  have RY := kide (K3.out.later (NY.out.below HB0.out t.1 t.2))
  have yy : ((n0.setCell ⟨b0 + 1 + 1, 0, none⟩ (Value.int .i64 t.1)).setCell ⟨b0 + 1 + 1, 1, none⟩ (Value.int .i64 t.2)).cell? ⟨ab, ao, none⟩ = some (Value.slice (some ⟨g, o, none⟩) KL c) := by
    rw [World.cell?_of_block (w := n0)]
    · exact c0_0
    · rw [heap_setCell_other _ _ _ _ (by simp; omega), heap_setCell_other _ _ _ _ (by simp; omega)]
  generalize ((n0.setCell ⟨b0 + 1 + 1, 0, none⟩ (Value.int .i64 t.1)).setCell ⟨b0 + 1 + 1, 1, none⟩ (Value.int .i64 t.2)) = n1 at *
  refine hK _ _ (Sx.behind (by kernel_rfl) trivial) ?_
  clear hK K
  try go_simp
  refine wpAnyX_done (by kernel_rfl) ?_ _
  go_wp2_with (refine wpList_appL5t rfl _ _ rfl (w.heap.size + 1) _ [] ps rfl N1.out.nb.row g o KL c rfl HKL.out RY.out hll N1.out.nb.bx.lt ?_)
  intro v6 w6 ho6 hg6 hat6
  have N6 := kide (N1.out.app ho6 hg6 hat6 rfl)
  rw [List.nil_append] at N6
  clear ho6 hg6 hat6
  go_wp2_with fail
  go_loopw [7, 12] (fun v i wr => ∃ k : Nat, k ≤ An ∧ i = .int .i64 (k : Int) ∧ Nt w #[Value.int .i64 6, Value.int .i64 vr, Value.int .i64 (An : Int), Value.int .i64 Bb, Value.int .i64 bw, Value.slice wa nw wc, Value.slice ka nk kc] t v (ps ++ List.replicate k t) wr) (fun _ i _ => An - (intOf i).toNat)
  case atStart => exact ⟨0, Nat.zero_le _, rfl, by rw [List.replicate_zero, List.append_nil]; exact N6.out⟩
  case round =>
    obtain ⟨k, hk, rfl, hnb⟩ := hrel
    have c2 := hnb.nb.c HB0.out 2
    have t0 := hnb.tpc HB0.out 0
    have t1 := hnb.tpc HB0.out 1
    simp at c2 t0 t1
    have HNB := kide hnb
    have lbx := hnb.nb.bx.lt
    have ltp := hnb.tp.lt
    have lb9 := lbx
    have lt9 := ltp
    rw [HB0.out] at lb9 lt9
    clear hnb
    by_cases hlt : k < An
    · have q1 : (k : Int) < (An : Int) := by omega
      have q2 : IntKind.i64.wrap ((k : Int) + 1) = (k : Int) + 1 := by rw [IntKind.wrap_i64]; omega
      have BA : Hid (Below wr.heap.size wr (wr.alloc (Obj.cells #[Value.int .i64 t.1, Value.int .i64 t.2] 78))) := (Below.refl _ _).alloc (Nat.le_refl _) _
      have XA := kide (rdp_one (t := t) (Bz.new wr #[Value.int .i64 t.1, Value.int .i64 t.2] 78))
      have NA := kide (HNB.out.later BA.out)
      have hll2 : (ps ++ List.replicate k t).length + [t].length ≤ 1073741824 := by have := HL.out; simp; omega
      have hsz2 : w.heap.size + 1 ≤ (wr.alloc (Obj.cells #[Value.int .i64 t.1, Value.int .i64 t.2] 78)).heap.size := by simp; omega
      go_wp2_with (refine wpList_appL5t rfl _ _ rfl (w.heap.size + 1) _ (ps ++ List.replicate k t) [t] rfl NA.out.nb.row wr.heap.size 0 1 _ rfl rfl XA.out hll2 hsz2 ?_)
      intro v7 w7 ho7 hg7 hat7
      rw [← List.append_assoc] at ho7
      have N7 := kide (NA.out.app ho7 hg7 hat7 (by simp))
      rw [rpl_snoc] at N7
      clear ho7 hg7 hat7
      go_wp2_with fail
      go_roundw
      case rel => exact ⟨k + 1, by omega, rfl, N7.out⟩
      case measure => simp only [intOf]; omega
    · obtain rfl : k = An := by omega
      go_wp2_with fail
      exact bodyPost_ret (v := u7) (by simp [results, Tryz.results24, go_sem]) rfl ⟨u7, rfl, HNB.out.nb.row.lowB (Nat.le_succ _), HNB.out.nb.bel⟩
end Go.Proofs.YtckidgpopbpagaaGreatDoor

/- The bits of a node, on the given side. -/
namespace Go.Proofs.YtckidgpopbpagaaGreatDoor
set_option linter.unusedVariables false
set_option linter.unusedSimpArgs false
open Go.RowKit

theorem flat_count : ∀ (l : List (List Ib)), (∀ k ∈ l, 1 ≤ k.length) → l.length ≤ l.flatten.length
  | [], _ => by simp
  | k :: t, h => by
    have h1 := h k (by simp)
    have h2 := flat_count t (fun x hx => h x (List.mem_cons_of_mem _ hx))
    simp only [List.length_cons, List.flatten_cons, List.length_append]
    omega
theorem l5Node_any {ds : List Dc} {all : List (List Ib)} {n : Tc} {w : World} (da wa ka aa : Option Addr) (dc nd wc kc na ac : Nat) (hd : RdD w da ds) (hnd : ds.length = nd) (hw : Rd w wa n.ws) (hk : Kb w aa (kidsB all n.ks)) (hna : n.ks.length = na) (hN : FNode ds all n) :
    Calls Tryz.prog 24 #[.slice da nd dc, .agg #[.int .i64 n.op, .int .i64 n.vr, .int .i64 n.a, .int .i64 n.b, .int .i64 n.bw, .slice wa n.ws.length wc, .slice ka n.ks.length kc], .slice aa na ac] w (RetNb (nodB ds all n) w) := by
  have hop := hN.op
  have hkid := hN.kid
  have hlen := hN.len
  have hvar := hN.var
  have hcst := hN.cst
  have hone := hN.one
  have hpart := hN.part
  have hamt := hN.amt
  have hrep := hN.rep
  clear hN
  obtain ⟨op, vr, A, Bb, bw, ws, ks⟩ := n
  simp only [] at hw hk hna hop hkid hvar hcst hone hpart hamt hrep hlen ⊢
  unfold nodB at hlen ⊢
  simp only [] at hlen ⊢
  rcases (show op = 1 ∨ op = 2 ∨ op = 3 ∨ 4 ≤ op by omega) with e | e | e | e
  · subst e
    obtain ⟨⟨v1, v2⟩, v3, v4⟩ := hvar rfl
    obtain ⟨V, rfl⟩ : ∃ V : Nat, vr = (V : Int) := ⟨vr.toNat, by omega⟩
    rw [Int.toNat_natCast] at v3 v4 ⊢
    rw [if_pos rfl]
    exact l5n1 hd hnd (by omega) v3 v4
  · subst e
    have hr := hcst rfl
    have hp := right_W hr
    obtain ⟨E, rfl⟩ : ∃ E : Nat, bw = (E : Int) := ⟨bw.toNat, by omega⟩
    rw [if_neg (by decide), if_pos rfl, Int.toNat_natCast]
    exact l5n2 hw hr
  · subst e
    rw [if_neg (by decide), if_neg (by decide), if_pos rfl] at hlen ⊢
    have hc := flat_count (kidsB all ks).reverse (fun k hk9 => by
      rw [List.mem_reverse] at hk9
      unfold kidsB at hk9
      obtain ⟨j, hj, rfl⟩ := List.mem_map.1 hk9
      exact (hkid j hj).2.1)
    have hkl : (kidsB all ks).length = ks.length := by simp [kidsB]
    rw [List.length_reverse, hkl, hna] at hc
    exact l5n3 hk (by rw [hkl, hna]) (by omega) hlen.2
  · obtain ⟨j, rfl⟩ := hone e
    obtain ⟨-, h1, h2, -⟩ := hkid j (by simp)
    have hkb : kidsB all [j] = [all.getD j.toNat []] := rfl
    rw [hkb] at hk hlen hpart ⊢
    have hg : [all.getD j.toNat []].getD 0 [] = all.getD j.toNat [] := rfl
    rw [hg] at hlen hpart ⊢
    generalize all.getD j.toNat [] = K at *
    have hna1 : na = 1 := by rw [← hna]; rfl
    have hsub : ∃ t, K[K.length - 1]? = some t := ⟨_, List.getElem?_eq_getElem (by omega)⟩
    clear hkid hd hnd hvar hcst hone hkb hg
    rcases (show op = 4 ∨ op = 5 ∨ op = 6 ∨ op = 7 ∨ op = 8 ∨ op = 9 by omega) with e | e | e | e | e | e
    · subst e
      obtain ⟨p1, p2, p3⟩ := hpart rfl
      obtain ⟨An, rfl⟩ : ∃ An : Nat, A = (An : Int) := ⟨A.toNat, by omega⟩
      obtain ⟨Bn, rfl⟩ : ∃ Bn : Nat, Bb = (Bn : Int) := ⟨Bb.toNat, by omega⟩
      rw [if_neg (by decide), if_neg (by decide), if_neg (by decide), if_pos rfl, Int.toNat_natCast, Int.toNat_natCast]
      exact l5n4 hk hna1 h2 rfl (by omega) (by omega)
    · subst e
      obtain ⟨a1, a2⟩ := hamt (by decide)
      obtain ⟨An, rfl⟩ : ∃ An : Nat, A = (An : Int) := ⟨A.toNat, by omega⟩
      rw [if_neg (by decide), if_neg (by decide), if_neg (by decide), if_neg (by decide), if_pos rfl, Int.toNat_natCast]
      exact l5n5 hk hna1 (by omega) h2
    · subst e
      obtain ⟨a1, a2⟩ := hamt (by decide)
      obtain ⟨An, rfl⟩ : ∃ An : Nat, A = (An : Int) := ⟨A.toNat, by omega⟩
      obtain ⟨t, ht⟩ := hsub
      rw [if_neg (by decide), if_neg (by decide), if_neg (by decide), if_neg (by decide), if_neg (by decide), if_pos rfl, Int.toNat_natCast, show K.getD (K.length - 1) (-1, 0) = t by simp [List.getD, ht]]
      exact l5n6 hk hna1 (by omega) h2 ht
    · subst e
      obtain ⟨a1, a2⟩ := hamt (by decide)
      obtain ⟨An, rfl⟩ : ∃ An : Nat, A = (An : Int) := ⟨A.toNat, by omega⟩
      rw [if_neg (by decide), if_neg (by decide), if_neg (by decide), if_neg (by decide), if_neg (by decide), if_neg (by decide), if_pos rfl, Int.toNat_natCast]
      exact l5n7 hk hna1 (by omega) h2 rfl (by omega) rfl rfl
    · subst e
      obtain ⟨a1, a2⟩ := hamt (by decide)
      obtain ⟨An, rfl⟩ : ∃ An : Nat, A = (An : Int) := ⟨A.toNat, by omega⟩
      rw [if_neg (by decide), if_neg (by decide), if_neg (by decide), if_neg (by decide), if_neg (by decide), if_neg (by decide), if_neg (by decide), if_pos rfl, Int.toNat_natCast]
      exact l5n8 hk hna1 (by omega) h2 rfl (by omega) rfl rfl rfl
    · subst e
      obtain ⟨a1, a2⟩ := hamt (by decide)
      obtain ⟨An, rfl⟩ : ∃ An : Nat, A = (An : Int) := ⟨A.toNat, by omega⟩
      rw [if_neg (by decide), if_neg (by decide), if_neg (by decide), if_neg (by decide), if_neg (by decide), if_neg (by decide), if_neg (by decide), if_neg (by decide), Int.toNat_natCast] at hlen ⊢
      exact l5n9 hk hna1 (by omega) hlen.2
end Go.Proofs.YtckidgpopbpagaaGreatDoor

/- Rows of rows of bits; flat forms of terms, on the given side. -/
namespace Go.Proofs.YtckidgpopbpagaaGreatDoor
set_option linter.unusedVariables false
set_option linter.unusedSimpArgs false
open Go.RowKit

theorem Tryz.infoK1 : (Tryz.prog.info? 63).map (fun i => (i.zero, i.size, i.bytes)) = some (some (.slice none 0 0), 1, 24) := by kernel_rfl
/-- A row of rows of bits of the owner's own. -/
def OK1 (w : World) (B : Nat) (v : Value) (l : List Value) : Prop := w.ownsRow B 63 1 v l.length l
theorem OK1.lt {w : World} {B : Nat} {v : Value} {l : List Value} (h : OK1 w B v l) {b : Nat} (hb : v.ownBlock = some b) : B ≤ b ∧ b < w.heap.size := World.ownsRow.lt h b hb
theorem OK1.later {w w' : World} {B : Nat} {v : Value} {l : List Value} (h : OK1 w B v l) (hb : Below w.heap.size w w') : OK1 w' B v l := World.ownsRow.kept (row := none) h ⟨hb.os, hb.tape, hb.output, hb.size, fun k hk _ => hb.block k hk⟩ (by
  cases h' : v.ownBlock with
  | none => exact .inl rfl
  | some k => exact .inr (by simp))
theorem OK1.form {w : World} {B : Nat} {v : Value} {l : List Value} (h : OK1 w B v l) : ∃ a c, v = .slice a l.length c := by
  rcases h.2 with ⟨rfl, h0⟩ | ⟨g, cap, cur, rfl, -⟩
  · exact ⟨none, 0, by rw [h0]⟩
  · exact ⟨_, cap, rfl⟩
theorem OK1.typed {w : World} {B : Nat} {v : Value} {l : List Value} (h : OK1 w B v l) {b : Nat} (hb : v.ownBlock = some b) : ∃ cur, w.heap[b]? = some (.cells cur 63 (0, 0)) := by
  rcases h.2 with ⟨rfl, -⟩ | ⟨g, cap, cur, rfl, -, hh, -⟩
  · cases hb
  · cases hb; exact ⟨cur, hh⟩
theorem OK1.empty (w : World) (B : Nat) (h : B ≤ w.heap.size) : OK1 (w.alloc (.cells #[] 63)) B (.slice (some ⟨w.heap.size, 0, Option.none⟩) 0 0) [] := World.ownsRow_made w #[] 0 h (Nat.zero_le _) (by simp)
theorem OK1.cell {w : World} {B g n c : Nat} {l : List Value} (h : OK1 w B (.slice (some ⟨g, 0, none⟩) n c) l) {i : Nat} {u : Value} (hi : l[i]? = some u) : w.cell? ⟨g, i, none⟩ = some u := by
  have hc := World.ownsRow.cells h (g := g) rfl i u hi
  rw [Addr.add_lit, Nat.zero_add] at hc
  exact hc
theorem step_appK1 (w : World) {ops : Array Oper} {o : Oper} {a : Act} {K : Act → World → Prop} {Q : Exit → Act → World → Prop} {E : Prop} (hgd : o.guard = none) (s x : Operand)
    (ho : o.op = .call { callee := .builtin .append, args := #[s, x], argTypes := #[59, 59] })
    (B : Nat) (v : Value) (l : List Value) (y : Value) (hs : a.eval s = v) (hown : OK1 w B v l) (gx c : Nat) (hx : a.eval x = .slice (some ⟨gx, 0, none⟩) 1 c)
    (h0 : w.cell? ⟨gx, 0, none⟩ = some y) (hy : y.oneCell' = true) (hl : l.length ≤ 1073741824) (hB : B ≤ w.heap.size)
    (h : ∀ g cap w', OK1 w' B (.slice (some ⟨g, 0, none⟩) (l.length + 1) cap) (l ++ [y]) → w.grownBy w' v.ownBlock → K (a.put o.dst (.slice (some ⟨g, 0, none⟩) (l.length + 1) cap)) w') :
    if Region.wanted o (yielded ops a.tmps) = true then Oper.wp Tryz.prog o a w K Q else E := by
  obtain ⟨i0, hi, hz0, hz1, hz2⟩ := info_parts Tryz.infoK1
  refine step_append_lies w hgd s x 59 ho B 63 i0 _ 1 24 Tryz.underlying59 hi hz0 hz1 hz2 rfl (by decide) v l.length l hs hown ⟨gx, 0, none⟩ 1 c [y] hx rfl ?_ ?_ (by decide) ?_ ?_ hB _ rfl ?_
  · intro j u hj
    rw [Addr.add_lit]
    match j, hj with
    | 0, hj => simp at hj; subst hj; exact h0
    | j + 1, hj => simp at hj
  · intro u hu
    simp at hu
    subst hu
    exact hy
  · unfold maxLen; omega
  · omega
  · intro g cap w' h1 h2 _ _
    refine h g cap w' ?_ h2
    unfold OK1
    rw [List.length_append]
    exact h1
theorem wpList_appK1 {w : World} {ops : Array Oper} {rest : List Oper} {o : Oper} {a : Act} {Q : Exit → Act → World → Prop} (hgd : o.guard = none) (s x : Operand)
    (ho : o.op = .call { callee := .builtin .append, args := #[s, x], argTypes := #[59, 59] })
    (B : Nat) (v : Value) (l : List Value) (y : Value) (hs : a.eval s = v) (hown : OK1 w B v l) (gx c : Nat) (hx : a.eval x = .slice (some ⟨gx, 0, none⟩) 1 c)
    (h0 : w.cell? ⟨gx, 0, none⟩ = some y) (hy : y.oneCell' = true) (hl : l.length ≤ 1073741824) (hB : B ≤ w.heap.size)
    (h : ∀ g cap w', OK1 w' B (.slice (some ⟨g, 0, none⟩) (l.length + 1) cap) (l ++ [y]) → w.grownBy w' v.ownBlock → wpList Tryz.prog ops Q rest (a.put o.dst (.slice (some ⟨g, 0, none⟩) (l.length + 1) cap)) w') : wpList Tryz.prog ops Q (o :: rest) a w := by
  obtain ⟨i0, hi, hz0, hz1, hz2⟩ := info_parts Tryz.infoK1
  refine wpList_append_lies w hgd s x 59 ho B 63 i0 _ 1 24 Tryz.underlying59 hi hz0 hz1 hz2 rfl (by decide) v l.length l hs hown ⟨gx, 0, none⟩ 1 c [y] hx rfl ?_ ?_ (by decide) ?_ ?_ hB _ rfl ?_
  · intro j u hj
    rw [Addr.add_lit]
    match j, hj with
    | 0, hj => simp at hj; subst hj; exact h0
    | j + 1, hj => simp at hj
  · intro u hu
    simp at hu
    subst hu
    exact hy
  · unfold maxLen; omega
  · omega
  · intro g cap w' h1 h2 _ _
    refine h g cap w' ?_ h2
    unfold OK1
    rw [List.length_append]
    exact h1

/-- What is of another type stays where such a row grows. -/
theorem ok1_keeps {w w' : World} {B b : Nat} {v : Value} {L : List Value} {cur : Array Value} {t : TypeId} (h : OK1 w B v L) (hg : w.grownBy w' v.ownBlock) (hb : w.heap[b]? = some (.cells cur t (0, 0))) (ht : t ≠ 63) : w'.heap[b]? = w.heap[b]? :=
  hg.block b (lt_of_block hb) (fun e => by
    obtain ⟨cur, hc⟩ := h.typed e.symm
    rw [hb] at hc
    cases hc
    exact ht rfl)
theorem OL5.pastK {w w' : World} {B B' : Nat} {v v' : Value} {l : List Ib} {L : List Value} (h : OL5 w B v l) (h' : OK1 w B' v' L) (hg : w.grownBy w' v'.ownBlock) : OL5 w' B v l := h.move fun b hb => by
  obtain ⟨cur, hc⟩ := h.typed hb
  exact ok1_keeps h' hg hc (by decide)
theorem Ss.pastK {w w' : World} {B B' : Nat} {v v' : Value} {l : List Sg} {L : List Value} (h : Ss w B v l) (h' : OK1 w B' v' L) (hg : w.grownBy w' v'.ownBlock) : Ss w' B v l :=
  ⟨h.1.move fun b hb => by
    obtain ⟨cur, hc⟩ := h.1.typed hb
    exact ok1_keeps h' hg hc (by decide), fun x hx => (h.2 x hx).kept fun k cur hc => ok1_keeps h' hg hc (by decide)⟩
theorem Bz.pastK {w w' : World} {b B' : Nat} {v' : Value} {cs : Array Value} {t : TypeId} {L : List Value} (h : Bz w b cs t) (ht : t ≠ 63) (h' : OK1 w B' v' L) (hg : w.grownBy w' v'.ownBlock) : Bz w' b cs t := by
  unfold Bz at h ⊢
  rw [ok1_keeps h' hg h ht]
  exact h

/-- Values that are rows of these bits. -/
def Lr (w : World) (B : Nat) (L : List Value) (Ks : List (List Ib)) : Prop := L.length = Ks.length ∧ ∀ (i : Nat) (K : List Ib), Ks[i]? = some K → ∃ u, L[i]? = some u ∧ OL5 w B u K
theorem Lr.later {w w' : World} {B : Nat} {L : List Value} {Ks : List (List Ib)} (h : Lr w B L Ks) (hb : Below w.heap.size w w') : Lr w' B L Ks := ⟨h.1, fun i K hK => by
  obtain ⟨u, h1, h2⟩ := h.2 i K hK
  exact ⟨u, h1, h2.later hb⟩⟩
theorem Lr.pastK {w w' : World} {B B' : Nat} {v' : Value} {L M : List Value} {Ks : List (List Ib)} (h : Lr w B L Ks) (h' : OK1 w B' v' M) (hg : w.grownBy w' v'.ownBlock) : Lr w' B L Ks := ⟨h.1, fun i K hK => by
  obtain ⟨u, h1, h2⟩ := h.2 i K hK
  exact ⟨u, h1, h2.pastK h' hg⟩⟩
theorem Lr.nil (w : World) (B : Nat) : Lr w B [] [] := ⟨rfl, fun i K h => by simp at h⟩
theorem Lr.snoc {w : World} {B : Nat} {L : List Value} {Ks : List (List Ib)} {u : Value} {K : List Ib} (h : Lr w B L Ks) (hu : OL5 w B u K) : Lr w B (L ++ [u]) (Ks ++ [K]) := by
  refine ⟨by simp [h.1], fun i K' hK => ?_⟩
  by_cases hi : i < Ks.length
  · rw [List.getElem?_append_left hi] at hK
    obtain ⟨u', h1, h2⟩ := h.2 i K' hK
    exact ⟨u', by rw [List.getElem?_append_left (by rw [h.1]; exact hi)]; exact h1, h2⟩
  · rw [List.getElem?_append_right (by omega)] at hK
    have hi0 : i = Ks.length := by
      have := (List.getElem?_eq_some_iff.1 hK).1
      simp at this
      omega
    subst hi0
    simp at hK
    subst hK
    exact ⟨u, by rw [← h.1]; simp, hu⟩
theorem OL5.told {w : World} {B : Nat} {u : Value} {K : List Ib} (h : OL5 w B u K) (h1 : 1 ≤ K.length) (h2 : K.length ≤ 4096) : ∃ g c, u = .slice (some ⟨g, 0, none⟩) K.length c ∧ K.length ≤ c ∧ RdP w (some ⟨g, 0, none⟩) K := by
  obtain ⟨a, c, rfl, hr⟩ := h.rdp (by omega)
  rcases h.2 with ⟨e9, h9⟩ | ⟨g, cap, cur, e9, -, -, hc1, -⟩
  · omega
  · cases e9
    exact ⟨g, c, rfl, hc1, hr⟩
theorem kb_of {w : World} {B B' ab nk kc : Nat} {L : List Value} {Ks : List (List Ib)} (h : OK1 w B' (.slice (some ⟨ab, 0, none⟩) nk kc) L) (hl : Lr w B L Ks) (hK : ∀ K ∈ Ks, 1 ≤ K.length ∧ K.length ≤ 4096) : Kb w (some ⟨ab, 0, none⟩) Ks := by
  refine ⟨ab, 0, rfl, fun i K hi => ?_⟩
  obtain ⟨u, h1, h2⟩ := hl.2 i K hi
  obtain ⟨k1, k2⟩ := hK K (List.mem_of_getElem? hi)
  obtain ⟨g, c, rfl, h3, h4⟩ := h2.told k1 k2
  exact ⟨g, 0, c, by rw [Nat.zero_add]; exact h.cell h1, h3, h4⟩

/-- What stands between two rounds. -/
structure Fz (w : World) (cs : Array Value) (va vl : Value) (all : List (List Ib)) (L : List Value) (l : List Sg) (wr : World) : Prop where
  bx : Bz wr w.heap.size cs 33
  row : OK1 wr (w.heap.size + 1) va L
  lk : Lr wr w.heap.size L all
  ss : Ss wr w.heap.size vl l
  bel : Below w.heap.size w wr
theorem Fz.later {w wr u : World} {cs : Array Value} {va vl : Value} {all : List (List Ib)} {L : List Value} {l : List Sg} (h : Fz w cs va vl all L l wr) (hb : Below wr.heap.size wr u) : Fz w cs va vl all L l u := ⟨h.bx.later hb, h.row.later hb, h.lk.later hb, h.ss.later hb, h.bel.trans (hb.mono h.bel.size)⟩
/-- A node's bits and form are put behind the others. -/
theorem Fz.put {w wr w' : World} {cs : Array Value} {va va' vl vl' u : Value} {all : List (List Ib)} {L : List Value} {l l' : List Sg} {K : List Ib} (h : Fz w cs va vl all L l wr) (hu : OL5 wr w.heap.size u K) (hs : Ss wr w.heap.size vl' l') (ho : OK1 w' (w.heap.size + 1) va' (L ++ [u])) (hg : wr.grownBy w' va.ownBlock) : Fz w cs va' vl' (all ++ [K]) (L ++ [u]) l' w' := by
  refine ⟨h.bx.pastK (by decide) h.row hg, ho, (h.lk.pastK h.row hg).snoc (hu.pastK h.row hg), hs.pastK h.row hg, h.bel.trans ⟨hg.os, hg.tape, hg.output, hg.size, fun k hk => hg.block k (Nat.lt_of_lt_of_le hk h.bel.size) (fun e => ?_)⟩⟩
  have := (h.row.lt e.symm).1
  omega
end Go.Proofs.YtckidgpopbpagaaGreatDoor

/- Flat forms of terms, on the given side. -/
namespace Go.Proofs.YtckidgpopbpagaaGreatDoor
set_option linter.unusedVariables false
set_option linter.unusedSimpArgs false
open Go.RowKit

/-- What stands while a node's kids are gathered. -/
def Kz (w wo : World) (all : List (List Ib)) (ks : List Int) (j : Nat) (vk : Value) (wi : World) : Prop := ∃ g c L, vk = .slice (some ⟨g, 0, none⟩) j c ∧ OK1 wi wo.heap.size vk L ∧ L.length = j ∧ Lr wi w.heap.size L (kidsB all (ks.take j)) ∧ Below wo.heap.size wo wi
theorem kidsB_next (all : List (List Ib)) {ks : List Int} {j : Nat} {c : Int} (h : ks[j]? = some c) : kidsB all (ks.take (j + 1)) = kidsB all (ks.take j) ++ [all.getD c.toNat []] := by
  unfold kidsB
  rw [List.take_add_one, h, Option.toList_some, List.map_append]
  rfl
theorem Kz.put {w wo wi w' : World} {all : List (List Ib)} {ks : List Int} {j g c g' c' : Nat} {L : List Value} {q : Int} {u : Value} (h1 : OK1 wi wo.heap.size (.slice (some ⟨g, 0, none⟩) j c) L) (hL : L.length = j) (h2 : Lr wi w.heap.size L (kidsB all (ks.take j))) (h3 : Below wo.heap.size wo wi) (hq : ks[j]? = some q) (hu : OL5 wi w.heap.size u (all.getD q.toNat [])) (ho : OK1 w' wo.heap.size (.slice (some ⟨g', 0, none⟩) (L.length + 1) c') (L ++ [u])) (hg : wi.grownBy w' (some g)) : Kz w wo all ks (j + 1) (.slice (some ⟨g', 0, none⟩) (j + 1) c') w' := by
  rw [hL] at ho
  refine ⟨g', c', L ++ [u], rfl, ho, by simp [hL], ?_, h3.trans ⟨hg.os, hg.tape, hg.output, hg.size, fun k hk => hg.block k (Nat.lt_of_lt_of_le hk h3.size) (fun e => ?_)⟩⟩
  · rw [kidsB_next all hq]
    exact (h2.pastK h1 hg).snoc (hu.pastK h1 hg)
  · have := (h1.lt (b := k) e.symm).1
    omega

set_option maxHeartbeats 4000000 in
set_option maxRecDepth 100000 in
theorem specFlatten_any (da ta : Option Addr) (dc tc n : Nat) (ds : List Dc) (xs : List Tg) (w : World) (hd : RdD w da ds) (ht : RdT w ta xs) (hn : xs.length = n) :
    Calls Tryz.prog 14 #[.slice da ds.length dc, .agg #[.slice ta n tc]] w (RetF (fltR ds (xs.map Tg.ct)) w) := by
  have HSW := kide (fun u (hu : Below w.heap.size w u) => specWidth_any da ta dc tc n ds xs u (hd.later hu) (ht.later hu) hn)
  have BA : Hid (Below w.heap.size w (w.alloc (Obj.cells #[Value.slice ta n tc] 33))) := (Below.refl _ _).alloc (Nat.le_refl _) _
  have XA := kide (Bz.new w #[Value.slice ta n tc] 33)
  obtain ⟨R, hR⟩ : ∃ R, fltR ds (xs.map Tg.ct) = R := ⟨_, rfl⟩
  rw [hR]
  unfold fltR at hR
  rw [List.length_map, hn] at hR
  have NIL : Hid (∀ u, Below w.heap.size w u → RetF ([], false) w (.returned (.tuple #[.slice (some ⟨u.heap.size, 0, none⟩) 0 0, .bool false])) (u.alloc (Obj.cells #[] 67))) := fun u hu => ⟨_, [], rfl, rfl, ⟨OS5.empty u _ hu.size, by simp⟩, hu.trans (((Below.refl _ _).alloc (Nat.le_refl _) _).mono hu.size)⟩
  by_cases h0 : (widthsR ds (xs.map Tg.ct)).length = 0
  · rw [if_pos h0] at hR
    subst hR
    have hw : widR ds (xs.map Tg.ct) = -1 := by unfold widR; rw [if_pos h0]
    rw [hw] at HSW
    generalize ds.length = nd at *
    clear hd ht hn h0 hw XA
    go_enter Tryz.func14, Tryz.ntmps14
    go_wp2_with fail
    refine Calls.mono (HSW.out _ BA.out) ?_
    rintro e w2 ⟨rfl, hb2⟩
    have B2 := kide (BA.out.trans (hb2.mono BA.out.size))
    clear hb2
    go_wp2_with fail
    exact bodyPost_ret (v := .tuple #[.slice (some ⟨w2.heap.size, 0, none⟩) 0 0, .bool false]) (by simp [results, Tryz.results14, go_sem]) rfl (NIL.out _ B2.out)
  · rw [if_neg h0] at hR
    obtain ⟨W, hW, hW1⟩ : ∃ W, widR ds (xs.map Tg.ct) = W ∧ ¬ W < 0 := by
      refine ⟨_, rfl, ?_⟩
      unfold widR
      rw [if_neg h0]
      have hl : (widthsR ds (xs.map Tg.ct)).length - 1 < (widthsR ds (xs.map Tg.ct)).length := by omega
      have h9 := (widthsR_bounds ds (xs.map Tg.ct)).2 _ (List.getElem_mem hl)
      simp only [List.getD, List.getElem?_eq_getElem hl, Option.getD_some]
      omega
    rw [hW] at HSW
    have hv64 : ∀ m ∈ xs.map Tg.ct, in64 m.vr := fun m hm => by
      obtain ⟨x, hx, rfl⟩ := List.mem_map.1 hm
      obtain ⟨i, hi⟩ := List.getElem?_of_mem hx
      rcases ht.2 with h0 | ⟨b, o, -, hc⟩
      · rw [h0] at hi; simp at hi
      · exact (hc i x hi).2.2.2.2.1
    obtain ⟨hdc, hn1, hn4, -, hFN⟩ := right_at h0 hv64
    rw [List.length_map, hn] at hn1 hn4
    obtain ⟨tb, tq, rfl, hcs⟩ : ∃ tb tq, ta = some ⟨tb, tq, none⟩ ∧ ∀ i x, xs[i]? = some x → TgAt w tb (tq + i * 7) x := by
      rcases ht.2 with h0 | ⟨b, o, e, hc⟩
      · rw [h0] at hn; simp at hn; omega
      · exact ⟨b, o, e, hc⟩
    obtain ⟨nd, hnd⟩ : ∃ n, ds.length = n := ⟨_, rfl⟩
    rw [hnd] at HSW ⊢
    have HD := kide hd
    have HND := kide hnd
    have HCS := kide hcs
    have HN := kide hn
    have HFN := kide hFN
    have HR := kide hR
    have HN4 := kide hn4
    have HN1 := kide hn1
    clear hd ht hn h0 hW hv64 hdc hn1 hn4 hFN hcs hnd hR
    go_enter Tryz.func14, Tryz.ntmps14
    go_wp2_with fail
    refine Calls.mono (HSW.out _ BA.out) ?_
    rintro e w2 ⟨rfl, hb2⟩
    have B2 := kide (BA.out.trans (hb2.mono BA.out.size))
    have X2 := kide (XA.out.later hb2)
    have S0 : Hid (Fz w #[Value.slice (some ⟨tb, tq, none⟩) n tc] (.slice (some ⟨w2.heap.size, 0, none⟩) 0 0) (.slice (some ⟨w2.heap.size + 1, 0, none⟩) 0 0) [] [] [] ((w2.alloc (Obj.cells #[] 63)).alloc (Obj.cells #[] 67))) := by
      have hlt := X2.out.lt
      have ha : Below w2.heap.size w2 (w2.alloc (Obj.cells #[] 63)) := (Below.refl _ _).alloc (Nat.le_refl _) _
      have hb : Below (w2.alloc (Obj.cells #[] 63)).heap.size (w2.alloc (Obj.cells #[] 63)) ((w2.alloc (Obj.cells #[] 63)).alloc (Obj.cells #[] 67)) := (Below.refl _ _).alloc (Nat.le_refl _) _
      refine ⟨(X2.out.later ha).later hb, (OK1.empty w2 _ hlt).later hb, Lr.nil _ _, ⟨?_, by simp⟩, B2.out.trans ((ha.trans (hb.mono (by simp))).mono B2.out.size)⟩
      have h9 := OS5.empty (w2.alloc (Obj.cells #[] 63)) w.heap.size (by simp; omega)
      rw [World.size_alloc] at h9
      exact h9
    clear hb2 XA
    go_wp2_with fail
    go_loopw [6, 7, 8] (fun va vl i wr => ∃ (k : Nat) (L : List Value) (l : List Sg), k ≤ n ∧ i = .int .i64 (k : Int) ∧ L.length = k ∧ (∃ (ga ca : Nat), va = .slice (some ⟨ga, 0, none⟩) k ca) ∧ Fz w #[Value.slice (some ⟨tb, tq, none⟩) n tc] va vl (bitsN ds [] ((xs.map Tg.ct).take k)) L l wr ∧ (∀ y ∈ bitsN ds [] ((xs.map Tg.ct).take k), (formB y).length ≤ 2000) ∧ (1 ≤ k → l.map Sg.ct = formB ((bitsN ds [] ((xs.map Tg.ct).take k)).getD (k - 1) []))) (fun _ _ i _ => n - (intOf i).toNat)
    case atStart => exact ⟨0, [], [], Nat.zero_le _, rfl, rfl, ⟨_, _, rfl⟩, S0.out, fun y hy => by simp [bitsN] at hy, fun h => by omega⟩
    case round =>
      obtain ⟨k, L, l, hk, rfl, hLk, ⟨ga, ca, rfl⟩, hfz, hle, hlast⟩ := hrel
      have c0 := hfz.bx.cell 0
      simp at c0
      have lbx := hfz.bx.lt
      have HFZ := kide hfz
      have HLE := kide hle
      have HLA := kide hlast
      have HLK := kide hLk
      clear hfz hle hlast hLk
      by_cases hlt : k < n
      · obtain ⟨x, hx⟩ : ∃ x, xs[k]? = some x := ⟨xs[k]'(by rw [HN.out]; exact hlt), List.getElem?_eq_getElem _⟩
        have hxm : (xs.map Tg.ct)[k]? = some x.ct := by rw [List.getElem?_map, hx]; rfl
        obtain ⟨⟨p0, p1, p2, p3, p4, p5, p6⟩, r1, r2, -, r4, -⟩ := HCS.out k x hx
        simp only [Tg.hd] at p0 p1 p2 p3 p4 p5 p6
        have hbel := HFZ.out.bel
        have ltb : tb < w.heap.size := block_lt_of_cell p0
        have hltb : tb < wr.heap.size := by have := hbel.size; omega
        replace p0 := (hbel.cell (p := ⟨tb, tq + k * 7, none⟩) ltb).trans p0
        replace p1 := (hbel.cell (p := ⟨tb, tq + k * 7 + 1, none⟩) ltb).trans p1
        replace p2 := (hbel.cell (p := ⟨tb, tq + k * 7 + 2, none⟩) ltb).trans p2
        replace p3 := (hbel.cell (p := ⟨tb, tq + k * 7 + 3, none⟩) ltb).trans p3
        replace p4 := (hbel.cell (p := ⟨tb, tq + k * 7 + 4, none⟩) ltb).trans p4
        replace p5 := (hbel.cell (p := ⟨tb, tq + k * 7 + 5, none⟩) ltb).trans p5
        replace p6 := (hbel.cell (p := ⟨tb, tq + k * 7 + 6, none⟩) ltb).trans p6
        have hnx := bitsN_next ds hxm []
        have hfn := HFN.out k x.ct hxm
        have hlk : (bitsN ds [] ((xs.map Tg.ct).take k)).length = k := by rw [bitsN_len, List.length_take, List.length_map, HN.out]; simp; omega
        obtain ⟨all, hall⟩ : ∃ all, bitsN ds [] ((xs.map Tg.ct).take k) = all := ⟨_, rfl⟩
        rw [hall] at HFZ HLE hnx hfn hlk HLA
        have RW := kide (r1.later hbel)
        have RK := kide (r2.later hbel)
        have RDW := kide (HD.out.later hbel)
        obtain ⟨⟨op, vr, A, Bb, bw, ws, ks⟩, wa, wc, ka, kc⟩ := x
        simp only [] at p0 p1 p2 p3 p4 p5 p6 RW RK hfn hnx
        have HNX := kide hnx
        have HFN1 := kide hfn
        have HALL := kide hall
        have HXM := kide hxm
        have HLN := kide hlk
        have hk1 : (k : Int) < (n : Int) := by omega
        have hk0 : (k : Int) ≥ 0 := by omega
        have hkw : IntKind.i64.wrap ((k : Int) + 1) = (k : Int) + 1 := by rw [IntKind.wrap_i64]; have := HN4.out; omega
        obtain ⟨nk, hnk⟩ : ∃ m, ks.length = m := ⟨_, rfl⟩
        rw [hnk] at p6
        have hnk4 : nk ≤ 1048576 := by rw [← hnk]; exact r2.1
        have HNK := kide hnk
        have K0 : Hid (Kz w wr all ks 0 (.slice (some ⟨wr.heap.size, 0, none⟩) 0 0) (wr.alloc (Obj.cells #[] 63))) := ⟨_, _, [], rfl, OK1.empty wr _ (Nat.le_refl _), rfl, Lr.nil _ _, (Below.refl _ _).alloc (Nat.le_refl _) _⟩
        clear hx hxm r1 r2 r4 hbel hnx hfn hall hnk
        go_wp2_with fail
        obtain ⟨wo, hwo⟩ : ∃ wo, wo = wr := ⟨_, rfl⟩
        subst hwo
        go_loopw [9, 10] (fun vk j wi => ∃ (q : Nat), q ≤ nk ∧ j = .int .i64 (q : Int) ∧ Kz w wo all ks q vk wi) (fun _ j _ => nk - (intOf j).toNat)
        case atStart => exact ⟨0, Nat.zero_le _, rfl, K0.out⟩
        case round =>
          obtain ⟨q, hq, rfl, hkz⟩ := hrel
          obtain ⟨g, c, Lk, rfl, ho, hLk, hlr, hbw⟩ := hkz
          have y0 := (hbw.cell (p := ⟨w.heap.size, 0, none⟩) lbx).trans c0
          have y6 := (hbw.cell (p := ⟨tb, tq + k * 7 + 6, none⟩) hltb).trans p6
          have HO := kide ho
          have HLKK := kide hLk
          have HLR := kide hlr
          have HBW := kide hbw
          have hgl : g < wr.heap.size := (ho.lt (b := g) rfl).2
          have hsz0 : wo.heap.size ≤ wr.heap.size := hbw.size
          clear ho hLk hlr hbw
          by_cases hqt : q < nk
          · obtain ⟨c9, hc9⟩ : ∃ c9, ks[q]? = some c9 := ⟨ks[q]'(by rw [HNK.out]; exact hqt), List.getElem?_eq_getElem _⟩
            obtain ⟨⟨h1, h2⟩, h3, h4, -⟩ := HFN1.out.kid c9 (List.mem_of_getElem? hc9)
            obtain ⟨kb, ko, rfl, hkc⟩ : ∃ kb ko, ka = some ⟨kb, ko, none⟩ ∧ wo.cell? ⟨kb, ko + q, none⟩ = some (.int .i64 c9) := by
              rcases RK.out.2.2 with h0 | ⟨b, o, e, hc⟩
              · rw [h0] at hc9; simp at hc9
              · refine ⟨b, o, e, ?_⟩
                have h9 := hc q (by rw [HNK.out]; exact hqt)
                simpa [List.getD, hc9] using h9
            obtain ⟨C, rfl⟩ : ∃ C : Nat, c9 = (C : Int) := ⟨c9.toNat, by omega⟩
            rw [Int.toNat_natCast] at h3 h4
            rw [HLN.out] at h2
            obtain ⟨uu, hu1, hu2⟩ := HFZ.out.lk.2 C (all.getD C []) (by simp [List.getD, show C < all.length by rw [HLN.out]; omega])
            have hca := HFZ.out.row.cell hu1
            obtain ⟨gu, cu, rfl, hu3, -⟩ := hu2.told h3 h4
            have y1 := (HBW.out.cell (p := ⟨kb, ko + q, none⟩) (block_lt_of_cell hkc)).trans hkc
            have y2 := (HBW.out.cell (p := ⟨ga, C, none⟩) (block_lt_of_cell hca)).trans hca
            have HU := kide (hu2.later HBW.out)
            have HC9 := kide hc9
            obtain ⟨KL, hKL⟩ : ∃ m, (all.getD C []).length = m := ⟨_, rfl⟩
            rw [hKL] at y2 HU
            have q1 : (q : Int) < (nk : Int) := by omega
            have q2 : IntKind.i64.wrap ((q : Int) + 1) = (q : Int) + 1 := by rw [IntKind.wrap_i64]; omega
            have q3 : (C : Int) < (k : Int) := h2
            clear hc9 h1 h2 h3 h4 hkc hu1 hu2 hca hu3 hKL
            have BA2 : Hid (Below wr.heap.size wr (wr.alloc (Obj.cells #[Value.slice (some ⟨gu, 0, none⟩) KL cu] 63))) := (Below.refl _ _).alloc (Nat.le_refl _) _
            have XA2 := kide (Bz.new wr #[Value.slice (some ⟨gu, 0, none⟩) KL cu] 63)
            have OA2 := kide (HO.out.later BA2.out)
            have LA2 := kide (HLR.out.later BA2.out)
            have UA2 := kide (HU.out.later BA2.out)
            have WA2 := kide (HBW.out.trans (BA2.out.mono HBW.out.size))
            have hll : Lk.length ≤ 1073741824 := by rw [HLKK.out]; omega
            have hsz : wo.heap.size ≤ (wr.alloc (Obj.cells #[Value.slice (some ⟨gu, 0, none⟩) KL cu] 63)).heap.size := by simp; omega
            go_wp2_with (refine wpList_appK1 rfl _ _ rfl wo.heap.size _ Lk (Value.slice (some ⟨gu, 0, none⟩) KL cu) rfl OA2.out wr.heap.size _ rfl (XA2.out.cell 0) rfl hll hsz ?_)
            intro g6 c6 w6 ho6 hg6
            have K6 := kide (Kz.put OA2.out HLKK.out LA2.out WA2.out HC9.out UA2.out ho6 hg6)
            rw [HLKK.out]
            clear ho6 hg6
            go_wp2_with fail
            go_roundw
            case rel => exact ⟨q + 1, by omega, rfl, K6.out⟩
            case measure => simp only [intOf]; omega
          · obtain rfl : q = nk := by omega
            have htk : ks.take q = ks := List.take_of_length_le (by rw [HNK.out]; exact Nat.le_refl _)
            rw [htk] at HLR
            have HKB := kide (kb_of HO.out HLR.out (fun K hK => by
              obtain ⟨j, hj, rfl⟩ := List.mem_map.1 hK
              exact (HFN1.out.kid j hj).2.imp_right And.left))
            have HND2 := kide (l5Node_any (n := ⟨op, vr, A, Bb, bw, ws, ks⟩) da wa ka (some ⟨g, 0, none⟩) dc nd wc kc q c (RDW.out.later HBW.out) HND.out (RW.out.later HBW.out) HKB.out HNK.out HFN1.out)
            simp only [HNK.out] at HND2
            have z0 := (HBW.out.cell (p := ⟨tb, tq + k * 7, none⟩) hltb).trans p0
            have z1 := (HBW.out.cell (p := ⟨tb, tq + k * 7 + 1, none⟩) hltb).trans p1
            have z2 := (HBW.out.cell (p := ⟨tb, tq + k * 7 + 2, none⟩) hltb).trans p2
            have z3 := (HBW.out.cell (p := ⟨tb, tq + k * 7 + 3, none⟩) hltb).trans p3
            have z4 := (HBW.out.cell (p := ⟨tb, tq + k * 7 + 4, none⟩) hltb).trans p4
            have z5 := (HBW.out.cell (p := ⟨tb, tq + k * 7 + 5, none⟩) hltb).trans p5
            have FZ1 := kide (HFZ.out.later HBW.out)
            clear HO HLKK HLR HKB htk
            go_wp2_with fail
            refine Calls.mono HND2.out ?_
            rintro e w4 ⟨v4, rfl, ho4, hb4⟩
            have hlen := HFN1.out.len
            have hokI := HFN1.out.ok
            have HBAD : Hid (nodB ds all ⟨op, vr, A, Bb, bw, ws, ks⟩ ∈ bitsN ds [] (xs.map Tg.ct)) := by
              have h7 : nodB ds all ⟨op, vr, A, Bb, bw, ws, ks⟩ ∈ bitsN ds [] ((xs.map Tg.ct).take (k + 1)) := by rw [HNX.out]; simp
              have h6 := bitsN_app ds ((xs.map Tg.ct).take (k + 1)) ((xs.map Tg.ct).drop (k + 1)) []
              rw [List.take_append_drop] at h6
              show _ ∈ _
              rw [h6]
              exact bitsN_mem ds _ _ _ h7
            obtain ⟨KN, hKN⟩ : ∃ KN, nodB ds all ⟨op, vr, A, Bb, bw, ws, ks⟩ = KN := ⟨_, rfl⟩
            rw [hKN] at hlen hokI ho4 HBAD HNX
            obtain ⟨g4, c4, rfl, hc4, hr4⟩ := ho4.told hlen.1 hlen.2
            have F4 := kide (FZ1.out.later hb4)
            have O4 := kide (ho4.lowB FZ1.out.bel.size)
            obtain ⟨N4, hN4⟩ : ∃ m, KN.length = m := ⟨_, rfl⟩
            have HLF := kide (l5Form_any (some ⟨g4, 0, none⟩) c4 N4 KN w4 hr4 hN4 (by omega) (fun p hp => by
              have h9 := okI_lt (hokI p hp)
              exact ⟨fun e => by have := h9.1 e; omega, fun e => by have := h9.2 e; omega⟩))
            rw [hN4] at O4 ⊢
            clear hlen hokI ho4 hb4 hKN hc4 hr4 hN4 HND2 z0 z1 z2 z3 z4 z5 y0 y6 p0 p1 p2 p3 p4 p5 p6 FZ1
            go_wp2_with fail
            refine Calls.mono HLF.out ?_
            rintro e w5 ⟨v5, l5, rfl, hm5, hs5, hb5⟩
            have F5 := kide (F4.out.later hb5)
            have O5 := kide (O4.out.later hb5)
            have S5 : Hid (Ss w5 w.heap.size v5 l5) := ⟨hs5.1.low F4.out.bel.size, fun x hx => (hs5.2 x hx).mono F4.out.bel.size⟩
            have M5 := kide hm5
            clear hm5 hs5 hb5
            by_cases h20 : l5.length ≤ 2000
            · rw [decide_eq_true h20]
              have H20 : Hid ((formB KN).length ≤ 2000) := by show _ ≤ _; rw [← M5.out, List.length_map]; exact h20
              have BA6 : Hid (Below w5.heap.size w5 (w5.alloc (Obj.cells #[Value.slice (some ⟨g4, 0, none⟩) N4 c4] 63))) := (Below.refl _ _).alloc (Nat.le_refl _) _
              have XA6 := kide (Bz.new w5 #[Value.slice (some ⟨g4, 0, none⟩) N4 c4] 63)
              have F6 := kide (F5.out.later BA6.out)
              have O6 := kide (O5.out.later BA6.out)
              have S6 := kide (S5.out.later BA6.out)
              have hll : L.length ≤ 1073741824 := by rw [HLK.out]; have := HN4.out; omega
              have hsz : w.heap.size + 1 ≤ (w5.alloc (Obj.cells #[Value.slice (some ⟨g4, 0, none⟩) N4 c4] 63)).heap.size := F6.out.bx.lt
              clear h20
              go_wp2_with (refine wpList_appK1 rfl _ _ rfl (w.heap.size + 1) _ L (Value.slice (some ⟨g4, 0, none⟩) N4 c4) rfl F6.out.row w5.heap.size _ rfl (XA6.out.cell 0) rfl hll hsz ?_)
              intro g7 c7 w7 ho7 hg7
              have F7 := kide (F6.out.put O6.out S6.out ho7 hg7)
              rw [HLK.out] at F7 ⊢
              clear ho7 hg7
              go_wp2_with fail
              go_roundw
              case rel =>
                refine ⟨k + 1, L ++ [Value.slice (some ⟨g4, 0, none⟩) N4 c4], l5, by omega, rfl, by simp [HLK.out], ⟨_, _, rfl⟩, by rw [HNX.out]; exact F7.out, fun y hy => ?_, fun _ => ?_⟩
                · rw [HNX.out] at hy
                  rcases List.mem_append.1 hy with hy | hy
                  · exact HLE.out y hy
                  · rw [List.mem_singleton.1 hy]; exact H20.out
                · rw [HNX.out, M5.out, Nat.add_sub_cancel]
                  congr 1
                  simp [List.getD, ← HLN.out]
              case measure => simp only [intOf]; omega
            · rw [decide_eq_false h20]
              have hRR := HR.out
              rw [if_neg (fun h9 => by
                have h8 := List.all_eq_true.1 h9 KN HBAD.out
                simp only [decide_eq_true_eq] at h8
                rw [← M5.out, List.length_map] at h8
                exact h20 h8)] at hRR
              subst hRR
              have B5 := kide F5.out.bel
              clear h20
              go_wp2_with fail
              exact bodyPost_ret (v := .tuple #[.slice (some ⟨w5.heap.size, 0, none⟩) 0 0, .bool false]) (by simp [results, Tryz.results14, go_sem]) rfl (NIL.out _ B5.out)
      · obtain rfl : k = n := by omega
        have htk : (xs.map Tg.ct).take k = xs.map Tg.ct := List.take_of_length_le (by rw [List.length_map, HN.out]; exact Nat.le_refl _)
        rw [htk] at HFZ HLE HLA
        have hRR := HR.out
        rw [if_pos (List.all_eq_true.2 fun y hy => decide_eq_true (HLE.out y hy))] at hRR
        subst hRR
        have hla := HLA.out HN1.out
        have HLA2 := kide hla
        obtain ⟨al, cl, rfl⟩ := HFZ.out.ss.1.form
        clear hla htk
        go_wp2_with fail
        exact bodyPost_ret (v := .tuple #[.slice al l.length cl, .bool true]) (by simp [results, Tryz.results14, go_sem]) rfl ⟨_, l, rfl, HLA2.out, HFZ.out.ss, HFZ.out.bel⟩
end Go.Proofs.YtckidgpopbpagaaGreatDoor
