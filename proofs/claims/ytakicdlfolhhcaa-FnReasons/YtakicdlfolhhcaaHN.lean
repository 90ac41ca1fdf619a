/- The specification's Join, of whatever links. -/
import Derived.Test.YtakicdlfolhhcaaGS
namespace Go.Proofs.Ytakicdlfolhhcaa
set_option linter.unusedVariables false
set_option linter.unusedSimpArgs false
open Go.RowKit

theorem step_appNone (w : World) {ops : Array Oper} {o : Oper} {a : Act} {K : Act → World → Prop} {Q : Exit → Act → World → Prop} {E : Prop} (hgd : o.guard = none) (s x : Operand)
    (ho : o.op = .call { callee := .builtin .append, args := #[s, x], argTypes := #[27, 27] })
    (B : Nat) (v : Value) (ls : List Lk) (hs : a.eval s = v) (hown : OK3 w B v ls) (hx : a.eval x = .slice none 0 0)
    (h : K (a.put o.dst v) w) :
    if Region.wanted o (yielded ops a.tmps) = true then Oper.wp Try.prog o a w K Q else E := by
  obtain ⟨i0, hi, hz0, hz1, hz2⟩ := info_parts Try.infoLink
  have hr := run_append_owned_none (P := Try.prog) (w := w) B 27 o.type 55 i0 3 Try.underlying27 hi v ls.length (lkc ls) hown
  have hw : Region.wanted o (yielded ops a.tmps) = true := by simp [Region.wanted, hgd]
  rw [if_pos hw]
  unfold Oper.wp execOp
  simp only [ho, resolve, invoke, builtin, Sem.run_bind, Sem.run_pure, Result.andThen_ok, List.map_toArray, List.map_cons, List.map_nil, hs, hx, hr]
  exact h

set_option maxHeartbeats 1000000 in
set_option maxRecDepth 100000 in
theorem l7Copy_nil (z : Int) (w : World) :
    Calls Try.prog 48 #[.agg #[.int .i64 z, .slice none 0 0]] w fun e w' => ∃ v, e = .returned (.agg #[.int .i64 z, v]) ∧ OK3 w' w.heap.size v [] ∧ Below w.heap.size w w' := by
  have h2 : Below w.heap.size w ((w.alloc (Obj.cells #[.int .i64 z, .slice none 0 0] 29)).alloc (Obj.cells #[.int .i64 0, .slice none 0 0] 29)) := ((Below.refl _ _).alloc (Nat.le_refl _) _).alloc (by simp) _
  have XF : Hid (Bx ((w.alloc (Obj.cells #[.int .i64 z, .slice none 0 0] 29)).alloc (Obj.cells #[.int .i64 0, .slice none 0 0] 29)) w.heap.size #[.int .i64 z, .slice none 0 0] 29) := (Bx.new w #[.int .i64 z, .slice none 0 0] 29).alloc _
  have XR : Hid (Bx ((w.alloc (Obj.cells #[.int .i64 z, .slice none 0 0] 29)).alloc (Obj.cells #[.int .i64 0, .slice none 0 0] 29)) (w.heap.size + 1) #[.int .i64 0, .slice none 0 0] 29) := by
    have := Bx.new (w.alloc (Obj.cells #[.int .i64 z, .slice none 0 0] 29)) #[.int .i64 0, .slice none 0 0] 29
    rwa [World.size_alloc] at this
  have H2 := kide h2
  clear h2
  go_enter Try.func48, Try.ntmps48
  go_wp2_with fail
  generalize (w.alloc (Obj.cells #[.int .i64 z, .slice none 0 0] 29)).alloc (Obj.cells #[.int .i64 0, .slice none 0 0] 29) = w0 at *
  refine wp_region_x (SA := fun u => u.cell? ⟨w.heap.size, 0, none⟩ = some (Value.int .i64 z) ∧ u.cell? ⟨w.heap.size, 1, none⟩ = some (Value.slice none 0 0)) (SB := fun _ => True) (k := 7) (by kernel_rfl) ?_
  have hbd : Below w0.heap.size w0 w0.drew := (Below.refl _ _).drew
  have XF0 := kide (XF.out.later hbd)
  have XR0 := kide (XR.out.later hbd)
  have B0 := kide H2.out.drew
  clear hbd XF XR H2
  generalize w0.drew = u0 at *
  have hs0 : Hid ((fun u => u.cell? ⟨w.heap.size, 0, none⟩ = some (Value.int .i64 z) ∧ u.cell? ⟨w.heap.size, 1, none⟩ = some (Value.slice none 0 0)) u0) := ⟨XF0.out.cell 0, XF0.out.cell 1⟩
  try go_simp
  refine wpAnyX_both (T := fun _ => True) (i := 0) (v := Value.pointer (some ⟨w.heap.size, 0, none⟩)) rfl (by kernel_rfl) (by kernel_rfl) (by kernel_rfl) (fun _ _ _ h => h) (by decide) (fun _ _ => trivial) (fun _ _ => trivial) (Sx.before (by kernel_rfl) hs0.out) (Or.inl ⟨by rfl, fun u hu => by go_simp⟩) ?_
  try go_simp
  refine wpAnyX_take (i := 1) (v := Value.int .i64 z) rfl (by kernel_rfl) (by kernel_rfl) (by kernel_rfl) (fun _ _ _ h => h) (by decide) (by kernel_rfl) (by kernel_rfl) hs0.out (Or.inl ⟨by rfl, fun u hu => by obtain ⟨e1, e2⟩ := hu; go_simp⟩) ?_
  try go_simp
  refine wpAnyX_both (T := fun _ => True) (i := 3) (v := Value.pointer (some ⟨w.heap.size, 1, none⟩)) rfl (by kernel_rfl) (by kernel_rfl) (by kernel_rfl) (fun _ _ _ h => h) (by decide) (fun _ _ => trivial) (fun _ _ => trivial) (Sx.before (by kernel_rfl) hs0.out) (Or.inl ⟨by rfl, fun u hu => by go_simp⟩) ?_
  try go_simp
  refine wpAnyX_take (i := 4) (v := Value.slice none 0 0) rfl (by kernel_rfl) (by kernel_rfl) (by kernel_rfl) (fun _ _ _ h => h) (by decide) (by kernel_rfl) (by kernel_rfl) hs0.out (Or.inl ⟨by rfl, fun u hu => by obtain ⟨e1, e2⟩ := hu; go_simp⟩) ?_
  try go_simp
  refine wpAnyX_ready (rs := [2]) (by kernel_rfl) (by simp) (AllX.cons rfl (fun K hK => ?_) AllX.nil)
  go_simp
  have hbx : Below u0.heap.size u0 (u0.alloc (Obj.cells #[] 55)) := (Below.refl _ _).alloc (Nat.le_refl _) _
  have XF1 := kide (XF0.out.later hbx)
  have XR1 := kide (XR0.out.later hbx)
  have OR1 := kide (OK3.fresh u0 w.heap.size B0.out.size)
  have B1 : Hid (Below w.heap.size w (u0.alloc (Obj.cells #[] 55))) := B0.out.alloc B0.out.size _
  obtain ⟨b7, hb7⟩ : ∃ x, u0.heap.size = x := ⟨_, rfl⟩
  rw [hb7] at OR1 ⊢
  clear hb7 hbx
  generalize u0.alloc (Obj.cells #[] 55) = u1 at *
  have hs1 : Hid ((fun u => u.cell? ⟨w.heap.size, 0, none⟩ = some (Value.int .i64 z) ∧ u.cell? ⟨w.heap.size, 1, none⟩ = some (Value.slice none 0 0)) u1) := ⟨XF1.out.cell 0, XF1.out.cell 1⟩
  refine hK _ _ (Sx.before (by kernel_rfl) hs1.out) ?_
  clear hK K
  try go_simp
  refine wpAnyX_ready (rs := [5]) (by kernel_rfl) (by simp) (AllX.cons rfl (fun K hK => ?_) AllX.nil)
  refine step_appNone _ rfl _ _ rfl w.heap.size (Value.slice (some ⟨b7, 0, none⟩) 0 0) [] (by first | rfl | simp [Act.eval]) OR1.out (by first | rfl | simp [Act.eval]) ?_
  have XF2 := XF1
  have XR2 := XR1
  have OR2 := OR1
  have B2 := B1
  have hs2 : Hid ((fun u => u.cell? ⟨w.heap.size, 0, none⟩ = some (Value.int .i64 z) ∧ u.cell? ⟨w.heap.size, 1, none⟩ = some (Value.slice none 0 0)) u1) := ⟨XF2.out.cell 0, XF2.out.cell 1⟩
  refine hK _ _ (Sx.before (by kernel_rfl) hs2.out) ?_
  clear hK K
  try go_simp
  refine wpAnyX_both (T := fun _ => True) (i := 6) (v := Value.agg #[Value.int .i64 z, Value.slice (some ⟨b7, 0, none⟩) 0 0]) rfl (by kernel_rfl) (by kernel_rfl) (by kernel_rfl) (fun _ _ _ h => h) (by decide) (fun _ _ => trivial) (fun _ _ => trivial) (Sx.before (by kernel_rfl) hs2.out) (Or.inl ⟨by rfl, fun u hu => by go_simp⟩) ?_
  try go_simp
  refine wpAnyX_ready (rs := [7]) (by kernel_rfl) (by simp) (AllX.cons rfl (fun K hK => ?_) AllX.nil)
  have e8 := XR2.out.cell 0
  have e9 := XR2.out.cell 1
  have f8 := XR2.out.froz 0
  have f9 := XR2.out.froz 1
  simp at e8 e9
  go_simp
  have XR3 : Hid (Bx ((u1.setCell ⟨(w.heap.size + 1), 0, none⟩ (Value.int .i64 z)).setCell ⟨(w.heap.size + 1), 1, none⟩ (Value.slice (some ⟨b7, 0, none⟩) 0 0)) (w.heap.size + 1) #[Value.int .i64 z, Value.slice (some ⟨b7, 0, none⟩) 0 0] 29) := (XR2.out.set 0 _).set 1 _
  have OR3 : Hid (OK3 ((u1.setCell ⟨(w.heap.size + 1), 0, none⟩ (Value.int .i64 z)).setCell ⟨(w.heap.size + 1), 1, none⟩ (Value.slice (some ⟨b7, 0, none⟩) 0 0)) w.heap.size (Value.slice (some ⟨b7, 0, none⟩) 0 0) []) := own3_set (own3_set OR2.out XR2.out (by decide) _) (XR2.out.set 0 (Value.int .i64 z)) (by decide) _
  have B3 : Hid (Below w.heap.size w ((u1.setCell ⟨(w.heap.size + 1), 0, none⟩ (Value.int .i64 z)).setCell ⟨(w.heap.size + 1), 1, none⟩ (Value.slice (some ⟨b7, 0, none⟩) 0 0))) := (B2.out.setCell (by simp) _).setCell (by simp) _
  generalize (u1.setCell ⟨(w.heap.size + 1), 0, none⟩ (Value.int .i64 z)).setCell ⟨(w.heap.size + 1), 1, none⟩ (Value.slice (some ⟨b7, 0, none⟩) 0 0) = u3 at *
  refine hK _ _ (Sx.behind (by kernel_rfl) trivial) ?_
  clear hK K
  clear e8 e9 f8 f9
  try go_simp
  refine wpAnyX_done (by kernel_rfl) ?_ _
  skip
  go_wp2_with fail
  have z0 := XR3.out.cell 0
  have z1 := XR3.out.cell 1
  simp at z0 z1
  exact bodyPost_ret (v := .agg #[.int .i64 z, .slice (some ⟨b7, 0, none⟩) 0 0]) (by simp [results, Try.results48, go_sem, z0, z1]) rfl ⟨_, rfl, OR3.out, B3.out⟩

set_option maxHeartbeats 2000000 in
set_option maxRecDepth 100000 in
theorem specJoin_gen (z : Int) (a : Option Addr) (n c : Nat) (ls : List Lk) (x y q : Int) (w : World) (hr : RdK w a ls) (hn : ls.length = n)
    (HCP : Hid (∀ u, Below w.heap.size w u → Calls Try.prog 48 #[.agg #[.int .i64 z, .slice a n c]] u fun e w' => ∃ v, e = .returned (.agg #[.int .i64 z, v]) ∧ OK3 w' u.heap.size v ls ∧ Below u.heap.size u w')) :
    Calls Try.prog 18 #[.agg #[.int .i64 z, .slice a n c], .int .i64 x, .int .i64 y, .int .i64 q] w (RetJ w (joinR z ls x y q)) := by
  obtain ⟨R, hR⟩ : ∃ R, joinR z ls x y q = R := ⟨_, rfl⟩
  rw [hR]
  have HR := kide hR
  have hl2 : ls.length ≤ 1048576 := hr.1
  have h2 : Below w.heap.size w ((w.alloc (Obj.cells #[.int .i64 z, .slice a n c] 29)).alloc (Obj.cells #[.int .i64 0, .slice none 0 0] 29)) := ((Below.refl _ _).alloc (Nat.le_refl _) _).alloc (by simp) _
  have XF : Hid (Bx ((w.alloc (Obj.cells #[.int .i64 z, .slice a n c] 29)).alloc (Obj.cells #[.int .i64 0, .slice none 0 0] 29)) w.heap.size #[.int .i64 z, .slice a n c] 29) := (Bx.new w #[.int .i64 z, .slice a n c] 29).alloc _
  have XR : Hid (Bx ((w.alloc (Obj.cells #[.int .i64 z, .slice a n c] 29)).alloc (Obj.cells #[.int .i64 0, .slice none 0 0] 29)) (w.heap.size + 1) #[.int .i64 0, .slice none 0 0] 29) := by
    have := Bx.new (w.alloc (Obj.cells #[.int .i64 z, .slice a n c] 29)) #[.int .i64 0, .slice none 0 0] 29
    rwa [World.size_alloc] at this
  have HC := kide (specForest_any z a n c ls _ (hr.later h2) hn)
  have HNX := kide (fun u (hz : 0 ≤ z ∧ z ≤ 1000) => l7Node_any z x a n c u hz)
  have HNY := kide (fun u (hz : 0 ≤ z ∧ z ≤ 1000) => l7Node_any z y a n c u hz)
  have HNQ := kide (fun u => l1In_any q 0 1000000 u)
  have HLE := kide (fun u (N : Nat) (L : Nat → Nat) (hu : Below w.heap.size w u) (hN : N ≤ 1000) (hL : goF N id ls = some L) => l7Least_any N n c a ls L u (hr.later hu) hn hN hL)
  have H2 := kide h2
  clear hr hn hR h2
  cases hf : forR z ls with
  | none =>
    have hres : R = (0, [], false, false) := by rw [← HR.out, joinR, hf]
    subst hres
    rw [hf] at HC
    simp only [Option.isSome_none] at HC
    clear HR HNX HNY HNQ HCP HLE
    go_enter Try.func18, Try.ntmps18
    go_wp2_with fail
    generalize (w.alloc (Obj.cells #[.int .i64 z, .slice a n c] 29)).alloc (Obj.cells #[.int .i64 0, .slice none 0 0] 29) = w0 at *
    refine Calls.mono HC.out ?_
    rintro e w1 ⟨rfl, hb1⟩
    have XR1 := kide (XR.out.later hb1)
    have B1 := kide (H2.out.trans (hb1.mono H2.out.size))
    have r0 := XR1.out.cell 0
    have r1 := XR1.out.cell 1
    have f0 := XR1.out.froz 0
    have f1 := XR1.out.froz 1
    simp at r0 r1
    clear hb1
    go_wp2_with fail
    exact bodyPost_ret (v := .tuple #[.agg #[.int .i64 0, .slice none 0 0], .bool false, .bool false]) (by simp [results, Try.results18, go_sem, r0, r1]) rfl (RetJ.no ((B1.out.setCell (by simp) _).setCell (by simp) _))
  | some L =>
    rw [hf] at HC
    simp only [Option.isSome_some] at HC
    have hz := (forR_len hf).1
    have HN2 := kide (fun u => HNX.out u hz)
    have HN3 := kide (fun u => HNY.out u hz)
    obtain ⟨N, rfl⟩ : ∃ N : Nat, z = (N : Int) := ⟨z.toNat, by omega⟩
    have hgo : goF N id ls = some L := by
      unfold forR at hf
      rw [if_pos hz, Int.toNat_natCast] at hf
      exact hf
    have HL2 := kide (fun u (hu : Below w.heap.size w u) => HLE.out u N L hu (by omega) hgo)
    have hll := (forR_len hf).2
    clear HNX HNY HLE hgo
    go_enter Try.func18, Try.ntmps18
    go_wp2_with fail
    generalize (w.alloc (Obj.cells #[.int .i64 (N : Int), .slice a n c] 29)).alloc (Obj.cells #[.int .i64 0, .slice none 0 0] 29) = w0 at *
    refine Calls.mono HC.out ?_
    rintro e w1 ⟨rfl, hb1⟩
    have XR1 := kide (XR.out.later hb1)
    have XF1 := kide (XF.out.later hb1)
    have B1 := kide (H2.out.trans (hb1.mono H2.out.size))
    have p0 := XF1.out.cell 0
    have p1 := XF1.out.cell 1
    simp at p0 p1
    clear hb1 XR XF H2 HC
    by_cases hx : 0 ≤ x ∧ x ≤ (N : Int) - 1
    case neg =>
      simp only [decide_eq_false hx] at HN2
      have hres : R = (0, [], false, false) := by
        rw [← HR.out, joinR, hf]
        simp only []
        rw [if_neg (by omega)]
      subst hres
      clear HR hf HN3 HNQ HCP HL2
      go_wp2_with fail
      refine Calls.mono (HN2.out w1) ?_
      rintro e w2 ⟨rfl, hb2⟩
      have XR2 := kide (XR1.out.later hb2)
      have B2 := kide (B1.out.trans (hb2.mono B1.out.size))
      have r0 := XR2.out.cell 0
      have r1 := XR2.out.cell 1
      have f0 := XR2.out.froz 0
      have f1 := XR2.out.froz 1
      simp at r0 r1
      clear hb2 p0 p1
      go_wp2_with fail
      exact bodyPost_ret (v := .tuple #[.agg #[.int .i64 0, .slice none 0 0], .bool false, .bool false]) (by simp [results, Try.results18, go_sem, r0, r1]) rfl (RetJ.no ((B2.out.setCell (by simp) _).setCell (by simp) _))
    simp only [decide_eq_true hx] at HN2
    go_wp2_with fail
    refine Calls.mono (HN2.out w1) ?_
    rintro e w2 ⟨rfl, hb2⟩
    have XR2 := kide (XR1.out.later hb2)
    have XF2 := kide (XF1.out.later hb2)
    have B2 := kide (B1.out.trans (hb2.mono B1.out.size))
    clear hb2 p0 p1 XR1 XF1 B1
    have p0 := XF2.out.cell 0
    have p1 := XF2.out.cell 1
    simp at p0 p1
    by_cases hy : 0 ≤ y ∧ y ≤ (N : Int) - 1
    case neg =>
      simp only [decide_eq_false hy] at HN3
      have hres : R = (0, [], false, false) := by
        rw [← HR.out, joinR, hf]
        simp only []
        rw [if_neg (by omega)]
      subst hres
      clear HR hf HN2 HNQ HCP HL2
      go_wp2_with fail
      refine Calls.mono (HN3.out w2) ?_
      rintro e w3 ⟨rfl, hb3⟩
      have XR3 := kide (XR2.out.later hb3)
      have B3 := kide (B2.out.trans (hb3.mono B2.out.size))
      have r0 := XR3.out.cell 0
      have r1 := XR3.out.cell 1
      have f0 := XR3.out.froz 0
      have f1 := XR3.out.froz 1
      simp at r0 r1
      clear hb3 p0 p1
      go_wp2_with fail
      exact bodyPost_ret (v := .tuple #[.agg #[.int .i64 0, .slice none 0 0], .bool false, .bool false]) (by simp [results, Try.results18, go_sem, r0, r1]) rfl (RetJ.no ((B3.out.setCell (by simp) _).setCell (by simp) _))
    simp only [decide_eq_true hy] at HN3
    go_wp2_with fail
    refine Calls.mono (HN3.out w2) ?_
    rintro e w3 ⟨rfl, hb3⟩
    have XR3 := kide (XR2.out.later hb3)
    have XF3 := kide (XF2.out.later hb3)
    have B3 := kide (B2.out.trans (hb3.mono B2.out.size))
    clear hb3 p0 p1 XR2 XF2 B2
    by_cases hq : 0 ≤ q ∧ q ≤ 1000000
    case neg =>
      simp only [decide_eq_false hq] at HNQ
      have hres : R = (0, [], false, false) := by
        rw [← HR.out, joinR, hf]
        simp only []
        rw [if_neg (by omega)]
      subst hres
      clear HR hf HN2 HN3 HCP HL2
      have r0 := XR3.out.cell 0
      have r1 := XR3.out.cell 1
      have f0 := XR3.out.froz 0
      have f1 := XR3.out.froz 1
      simp at r0 r1
      go_wp2_with fail
      refine Calls.mono (HNQ.out w3) ?_
      rintro e w4 ⟨rfl, hw4⟩
      obtain rfl := hw4.symm
      go_wp2_with fail
      exact bodyPost_ret (v := .tuple #[.agg #[.int .i64 0, .slice none 0 0], .bool false, .bool false]) (by simp [results, Try.results18, go_sem, r0, r1]) rfl (RetJ.no ((B3.out.setCell (by simp) _).setCell (by simp) _))
    simp only [decide_eq_true hq] at HNQ
    obtain ⟨na, rfl⟩ : ∃ m : Nat, x = (m : Int) := ⟨x.toNat, by omega⟩
    obtain ⟨nb, rfl⟩ : ∃ m : Nat, y = (m : Int) := ⟨y.toNat, by omega⟩
    have hna : na < N := by omega
    have hnb : nb < N := by omega
    have i0 : (na : Int) < (N : Int) := by omega
    have i1 : (nb : Int) < (N : Int) := by omega
    have hres : R = if L na = L nb then ((N : Int), ls, false, true) else ((N : Int), ls ++ [((na : Int), (nb : Int), q)], true, true) := by
      rw [← HR.out, joinR, hf]
      simp only []
      rw [if_pos ⟨by omega, by omega, hq⟩]
      simp
    have HRS := kide hres
    have p0 := XF3.out.cell 0
    have p1 := XF3.out.cell 1
    simp at p0 p1
    have HZ := kide hz
    have HLL := kide hll
    clear HR hf hres HN2 HN3 hx hy hq hz hll
    go_wp2_with fail
    refine Calls.mono (HNQ.out w3) ?_
    rintro e w4 ⟨rfl, hw4⟩
    obtain rfl := hw4.symm
    go_wp2_with fail
    refine Calls.mono (HCP.out w3 B3.out) ?_
    rintro e w5 ⟨v5, rfl, o5, hb5⟩
    obtain ⟨a5, c5, rfl⟩ := ok3_form o5
    have hbx : Below w5.heap.size w5 (w5.alloc (Obj.cells #[.int .i64 (N : Int), .slice a5 ls.length c5] 29)) := (Below.refl _ _).alloc (Nat.le_refl _) _
    have XO := kide (Bx.new w5 #[.int .i64 (N : Int), .slice a5 ls.length c5] 29)
    have XR5 := kide ((XR3.out.later hb5).later hbx)
    have XF5 := kide ((XF3.out.later hb5).later hbx)
    have B5 := kide ((B3.out.trans (hb5.mono B3.out.size)).trans (hbx.mono (Nat.le_trans B3.out.size hb5.size)))
    have O5 := kide (own3_later o5 hbx)
    have hz3 : Hid (w.heap.size ≤ w3.heap.size) := B3.out.size
    have hzR : Hid (w.heap.size + 1 < w5.heap.size) := Nat.lt_of_lt_of_le XR3.out.lt hb5.size
    have hb35 : Hid (w3.heap.size ≤ w5.heap.size) := hb5.size
    clear o5 hb5 hbx p0 p1 XR3 XF3 B3
    have p0 := XF5.out.cell 0
    have p1 := XF5.out.cell 1
    simp at p0 p1
    go_wp2_with fail
    generalize w5.alloc (Obj.cells #[.int .i64 (N : Int), .slice a5 ls.length c5] 29) = w5a at *
    have hbo0 : w.heap.size + 1 < w5.heap.size := by have := hzR.out; omega
    have hbl0 : w3.heap.size ≤ w5.heap.size := hb35.out
    obtain ⟨BO, hBO⟩ : ∃ b, w5.heap.size = b := ⟨_, rfl⟩
    rw [hBO] at XO hbo0 hbl0 ⊢
    have hbo : Hid (BO ≠ w.heap.size + 1) := by show _ ≠ _; omega
    have hbl : Hid (w.heap.size ≤ BO) := by show _ ≤ _; omega
    have hzz : Hid (∀ u : Nat, BO < u → w3.heap.size ≤ u) := fun u hu => by omega
    clear hBO hbo0 hbl0
    refine Calls.mono (HL2.out w5a B5.out) ?_
    rintro e w6 ⟨v6, rfl, ho6, hb6⟩
    have XO6 := kide (XO.out.later hb6)
    have XR6 := kide (XR5.out.later hb6)
    have B6 := kide (B5.out.trans (hb6.mono B5.out.size))
    have O6 := kide (own3_later O5.out hb6)
    obtain ⟨g6, cap6, rfl⟩ : ∃ gg cap, v6 = .slice (some ⟨gg, 0, none⟩) N cap := by
      rcases ho6.2 with ⟨-, h0⟩ | ⟨g, cap, cur, h0, -⟩
      · rw [lv_len] at h0; omega
      · rw [lv_len] at h0; exact ⟨g, cap, h0⟩
    obtain ⟨e4, -⟩ := ho6.cell (lv_get (L := L) hna)
    obtain ⟨e5, -⟩ := ho6.cell (lv_get (L := L) hnb)
    clear ho6 hb6 p0 p1 XR5 XF5 B5 O5 XO
    obtain ⟨la, hla⟩ : ∃ m, L na = m := ⟨_, rfl⟩
    obtain ⟨lb, hlb⟩ : ∃ m, L nb = m := ⟨_, rfl⟩
    rw [hla] at e4 HRS
    rw [hlb] at e5 HRS
    clear hla hlb hna hnb
    have x0 := XO6.out.cell 0
    have x1 := XO6.out.cell 1
    have r0 := XR6.out.cell 0
    have r1 := XR6.out.cell 1
    have f0 := XR6.out.froz 0
    have f1 := XR6.out.froz 1
    simp at x0 x1 r0 r1
    by_cases hlab : la = lb
    · have hRR : R = ((N : Int), ls, false, true) := by rw [HRS.out, if_pos hlab]
      subst hRR
      have hbq : ((la : Int) == (lb : Int)) = true := by simp [hlab]
      have OE : Hid (∀ k, OK3 (((w6.drewN k).setCell ⟨w.heap.size + 1, 0, none⟩ (.int .i64 (N : Int))).setCell ⟨w.heap.size + 1, 1, none⟩ (.slice a5 ls.length c5)) w.heap.size (.slice a5 ls.length c5) ls) := fun k => by
        have hb := below_drewN (Below.refl w6.heap.size w6) k
        have X := XR6.out.later hb
        exact ok3_base (own3_set (own3_set (own3_later O6.out hb) X (by decide) _) (X.set 0 (.int .i64 (N : Int))) (by decide) _) hz3.out
      have BE : Hid (∀ k, Below w.heap.size w (((w6.drewN k).setCell ⟨w.heap.size + 1, 0, none⟩ (.int .i64 (N : Int))).setCell ⟨w.heap.size + 1, 1, none⟩ (.slice a5 ls.length c5))) := fun k => ((below_drewN B6.out k).setCell (by simp) _).setCell (by simp) _
      clear HRS hlab
      go_wp2_with fail
      go_quiet (fail)
      go_wp2_with fail
      exact bodyPost_ret (v := .tuple #[.agg #[.int .i64 (N : Int), .slice a5 ls.length c5], .bool false, .bool true]) (by simp [results, Try.results18, go_sem, r0, r1]) rfl ⟨_, rfl, OE.out _, BE.out _⟩
    · have hRR : R = ((N : Int), ls ++ [((na : Int), (nb : Int), q)], true, true) := by rw [HRS.out, if_neg hlab]
      subst hRR
      have hbq : ((la : Int) == (lb : Int)) = false := by simp; omega
      clear HRS hlab
      go_wp2_with fail
      go_quiet (fail)
      have hb7 := below_drewN (Below.refl w6.heap.size w6) nq
      have XO7 := kide (XO6.out.later hb7)
      have XR7 := kide (XR6.out.later hb7)
      have B7 := kide (below_drewN B6.out nq)
      have O7 := kide (own3_later O6.out hb7)
      clear hb7 x0 x1 r0 r1 f0 f1 e4 e5 XO6 XR6 B6 O6 hbq
      generalize w6.drewN nq = w7 at *
      have hba : Below w7.heap.size w7 (w7.alloc (Obj.cells #[Value.int .i64 (na : Int), Value.int .i64 (nb : Int), Value.int .i64 q] 55)) := (Below.refl _ _).alloc (Nat.le_refl _) _
      have XL := Bx.new w7 #[Value.int .i64 (na : Int), Value.int .i64 (nb : Int), Value.int .i64 q] 55
      have LK : Hid (∀ i l, ([((na : Int), (nb : Int), q)] : List Lk)[i]? = some l → LkAt (w7.alloc (Obj.cells #[Value.int .i64 (na : Int), Value.int .i64 (nb : Int), Value.int .i64 q] 55)) w7.heap.size (0 + i * 3) l) := fun i l hi => by
        match i, hi with
        | 0, hi =>
          simp at hi
          subst hi
          exact ⟨XL.cell 0, XL.cell 1, XL.cell 2⟩
        | i + 1, hi => simp at hi
      have XO8 := kide (XO7.out.later hba)
      have XR8 := kide (XR7.out.later hba)
      have B8 := kide (B7.out.trans (hba.mono B7.out.size))
      have O8 : Hid (OK3 _ _ _ _) := own3_later O7.out hba
      have x0 := XO7.out.cell 0
      have x1 := XO7.out.cell 1
      simp at x0 x1
      have hz8 : w3.heap.size ≤ w7.heap.size := hzz.out _ XO7.out.lt
      have hlm : ls.length + [((na : Int), (nb : Int), q)].length ≤ 1073741824 := by simp; omega
      clear hba XL
      go_wp2_with (at_builtin; refine wpList_appLs rfl _ _ rfl w3.heap.size _ ls [((na : Int), (nb : Int), q)] rfl O8.out w7.heap.size 0 1 1 rfl rfl LK.out hlm (by simp; omega) ?_)
      intro v9 w9 ho9 hg9
      obtain ⟨a9, c9, rfl⟩ := ok3_form ho9
      have XO9 := kide (XO8.out.far3 O8.out hg9 (by decide))
      have XR9 := kide (XR8.out.far3 O8.out hg9 (by decide))
      have B9 := kide (Below.grown B8.out hg9 B8.out.size (fun j hj => by have := (own3_lt O8.out hj).1; have := hz3.out; omega))
      have O9 := kide ho9
      clear ho9 hg9 x0 x1 XO7 XR7 B7 O7 XO8 XR8 B8 O8 LK
      generalize hLE : ls ++ [((na : Int), (nb : Int), q)] = LE at *
      clear hLE
      have x0 := XO9.out.cell 0
      have x1 := XO9.out.cell 1
      have y0 := XO9.out.froz 0
      have y1 := XO9.out.froz 1
      have hne : BO ≠ w.heap.size + 1 := hbo.out
      have hne' : w.heap.size + 1 ≠ BO := Ne.symm hne
      have XOa := kide (XO9.out.set 1 (.slice a9 LE.length c9))
      have XRa := kide (XR9.out.other hne' 1 (.slice a9 LE.length c9))
      have Oa := kide (own3_set O9.out XO9.out (by decide) (o := 1) (.slice a9 LE.length c9))
      have hBOl : w.heap.size ≤ BO := hbl.out
      have Ba : Hid (Below w.heap.size w (w9.setCell ⟨BO, 1, none⟩ (.slice a9 LE.length c9))) := B9.out.setCell hBOl _
      have r0 := XR9.out.cell 0
      have r1 := XR9.out.cell 1
      have f0 := XR9.out.froz 0
      have f1 := XR9.out.froz 1
      simp at x0 x1 r0 r1
      have OE : Hid (OK3 (((w9.setCell ⟨BO, 1, none⟩ (.slice a9 LE.length c9)).setCell ⟨w.heap.size + 1, 0, none⟩ (.int .i64 (N : Int))).setCell ⟨w.heap.size + 1, 1, none⟩ (.slice a9 LE.length c9)) w.heap.size (.slice a9 LE.length c9) LE) :=
        ok3_base (own3_set (own3_set Oa.out XRa.out (by decide) _) (XRa.out.set 0 (.int .i64 (N : Int))) (by decide) _) hz3.out
      have BE : Hid (Below w.heap.size w (((w9.setCell ⟨BO, 1, none⟩ (.slice a9 LE.length c9)).setCell ⟨w.heap.size + 1, 0, none⟩ (.int .i64 (N : Int))).setCell ⟨w.heap.size + 1, 1, none⟩ (.slice a9 LE.length c9))) := (Ba.out.setCell (by simp) _).setCell (by simp) _
      have XE : Hid (Bx (((w9.setCell ⟨BO, 1, none⟩ (.slice a9 LE.length c9)).setCell ⟨w.heap.size + 1, 0, none⟩ (.int .i64 (N : Int))).setCell ⟨w.heap.size + 1, 1, none⟩ (.slice a9 LE.length c9)) (w.heap.size + 1) #[.int .i64 (N : Int), .slice a9 LE.length c9] 29) := (XRa.out.set 0 _).set 1 _
      go_wp2_with fail
      generalize ((w9.setCell ⟨BO, 1, none⟩ (.slice a9 LE.length c9)).setCell ⟨w.heap.size + 1, 0, none⟩ (.int .i64 (N : Int))).setCell ⟨w.heap.size + 1, 1, none⟩ (.slice a9 LE.length c9) = wE at *
      have z0 := XE.out.cell 0
      have z1 := XE.out.cell 1
      simp at z0 z1
      exact bodyPost_ret (v := .tuple #[.agg #[.int .i64 (N : Int), .slice a9 LE.length c9], .bool true, .bool true]) (by simp [results, Try.results18, go_sem, z0, z1]) rfl ⟨_, rfl, OE.out, BE.out⟩

end Go.Proofs.Ytakicdlfolhhcaa
