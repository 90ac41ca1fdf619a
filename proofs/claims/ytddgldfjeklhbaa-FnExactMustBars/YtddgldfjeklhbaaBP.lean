/- One more in a hedge. -/
import Derived.Test.YtddgldfjeklhbaaBO
namespace Go.Proofs.Ytddgldfjeklhbaa
set_option linter.unusedVariables false
set_option linter.unusedSimpArgs false
open Go.RowKit Go.WideMaps Go.Maps Go.MapKept Go.ChangeMaps

theorem wpList_appI8 {w : World} {ops : Array Oper} {rest : List Oper} {o : Oper} {a : Act} {Q : Exit → Act → World → Prop} (hgd : o.guard = none) (s x : Operand)
    (ho : o.op = .call { callee := .builtin .append, args := #[s, x], argTypes := #[33, 33] })
    (B : Nat) (v : Value) (xs : List Value) (y : Int) (hs : a.eval s = v) (hown : w.ownsRow B 2 1 v xs.length xs) (gx : Nat) (hx : a.eval x = .slice (some ⟨gx, 0, none⟩) 1 1)
    (h0 : w.cell? ⟨gx, 0, none⟩ = some (.int .i64 y)) (hl : xs.length ≤ 1073741824) (hB : B ≤ w.heap.size)
    (h : ∀ v' w', w'.ownsRow B 2 1 v' (xs ++ [Value.int .i64 y]).length (xs ++ [Value.int .i64 y]) → w.grownBy w' v.ownBlock → (v'.ownBlock = v.ownBlock ∨ v'.ownBlock = some w.heap.size) → wpList Try.prog ops Q rest (a.put o.dst v') w') : wpList Try.prog ops Q (o :: rest) a w := by
  obtain ⟨i0, hi, hz0, hz1, hz2⟩ := info_parts Try.infoI64h
  refine wpList_append_own_at w hgd s x 33 ho B 2 i0 _ 1 8 Try.underlying33 hi hz0 hz1 hz2 rfl (by decide) v xs.length xs hs hown ⟨gx, 0, none⟩ 1 1 [.int .i64 y] hx rfl ?_ ?_ (by unfold maxLen; omega) (by omega) hB ?_
  · intro j u hj
    rw [Addr.add_lit]
    match j, hj with
    | 0, hj => simp at hj; subst hj; exact h0
    | j + 1, hj => simp at hj
  · intro u hu
    simp at hu
    subst hu
    rfl
  · intro v' w' ho' hg _ hat
    exact h v' w' (by simpa using ho') hg hat

theorem owr_form {w : World} {B n : Nat} {e : TypeId} {v : Value} {xs : List Value} (h : w.ownsRow B e 1 v n xs) : ∃ a n c, v = .slice a n c := by
  rcases h.2 with ⟨e, -⟩ | ⟨g, cap, cur, e, -⟩
  · exact ⟨_, _, _, e⟩
  · exact ⟨_, _, _, e⟩

theorem Hg.block {w w1 : World} {B H n K i : Nat} {ov mv : Nat → Value} {cr : Nat → Int} (h : Hg w B H n K ov mv cr) (hi : i < n) (hg : w.grownBy w1 (ov i).ownBlock) : w1.heap[H]? = w.heap[H]? := by
  obtain ⟨cc, hh, r⟩ := h.cs
  obtain ⟨xi, hoi, -⟩ := h.own i hi
  exact hg.block H (lt_of_block hh) (fun e => by
    obtain ⟨⟨cur, hc⟩, -⟩ := owr_typed hoi e.symm
    rw [hh] at hc; cases hc)

/-- Nothing but rows of numbers and hedges has changed. -/
structure Ksh (w w' : World) : Prop where
  size : w.heap.size ≤ w'.heap.size
  stay : ∀ (k : Nat) (cs : Array Value) (t : TypeId) (fz : Nat × Nat), w.heap[k]? = some (Obj.cells cs t fz) → t ≠ 2 → t ≠ 75 → w'.heap[k]? = w.heap[k]?
theorem Ksh.trans {a b c : World} (h : Ksh a b) (h' : Ksh b c) : Ksh a c := ⟨Nat.le_trans h.size h'.size, fun k cs t fz e h1 h2 => (h'.stay k cs t fz ((h.stay k cs t fz e h1 h2).trans e) h1 h2).trans (h.stay k cs t fz e h1 h2)⟩
theorem Ksh.of {w w' : World} (hb : Below w.heap.size w w') : Ksh w w' := ⟨hb.size, fun k _ _ _ e _ _ => hb.block k (lt_of_block e)⟩
theorem Ksh.turned {w w' : World} {b : Nat} (h : w.mapTurned w' b) : Ksh w w' := ⟨h.grown.size, fun _ _ _ _ e _ _ => turned_cells h e⟩
theorem Ksh.grown {w w' : World} {B n : Nat} {v : Value} {xs : List Value} (h : w.grownBy w' v.ownBlock) (ho : w.ownsRow B 2 1 v n xs) : Ksh w w' := by
  refine ⟨h.size, fun k cs t fz e h1 _ => h.block k (lt_of_block e) (fun e' => ?_)⟩
  obtain ⟨⟨cur, hc⟩, -⟩ := owr_typed ho e'.symm
  rw [e] at hc
  cases hc
  exact h1 rfl
theorem Ksh.set {w : World} {b : Nat} {cs : Array Value} (h : w.heap[b]? = some (.cells cs 75 (0, 0))) (o : Nat) (v : Value) : Ksh w (w.setCell ⟨b, o, none⟩ v) := by
  refine ⟨by simp, fun k cs' t fz e _ h2 => heap_setCell_other _ _ _ _ (fun e' => ?_)⟩
  simp at e'
  subst e'
  rw [h] at e
  cases e
  exact h2 rfl

set_option maxHeartbeats 2000000 in
set_option maxRecDepth 100000 in
theorem addOther_any (B H n K i : Nat) (ov mv : Nat → Value) (cr : Nat → Int) (x : Int) (w : World) (h : Hg w B H n K ov mv cr) (hi : i < n) (hK : K ≤ 1048576) (hc : 0 ≤ cr i ∧ cr i ≤ 1048576) :
    Calls Try.prog 52 #[.pointer (some ⟨H, i * 3, none⟩), .int .i64 x] w fun e w' => e = .returned (.tuple #[]) ∧ HgE w' B H n (K + 1) (upd cr i (cr i + 1)) ∧ Below B w w' ∧ Ksh w w' := by
  obtain ⟨c0, c1, c2⟩ := h.cells hi
  have f0 := h.froz (i * 3)
  have f2 := h.froz (i * 3 + 2)
  have hlt := h.lt
  have hle := h.le
  have h1 := h.crowd i (cr i + 1)
  have hba : Below (w.setCell ⟨H, i * 3 + 2, none⟩ (.int .i64 (cr i + 1))).heap.size (w.setCell ⟨H, i * 3 + 2, none⟩ (.int .i64 (cr i + 1))) ((w.setCell ⟨H, i * 3 + 2, none⟩ (.int .i64 (cr i + 1))).alloc (Obj.cells #[Value.int .i64 x] 2)) := (Below.refl _ _).alloc (Nat.le_refl _) _
  have h2 := h1.later hba
  have KS := kide ((show Ksh w (w.setCell ⟨H, i * 3 + 2, none⟩ (.int .i64 (cr i + 1))) from by obtain ⟨cc, hh, -⟩ := h.cs; exact Ksh.set hh _ _).trans (Ksh.of hba))
  have HH := kide (h2.more (Nat.le_succ K))
  obtain ⟨xs, ho, hl⟩ := h2.own i hi
  have HO := kide ho
  have HL := kide hl
  have BB : Hid (Below B w ((w.setCell ⟨H, i * 3 + 2, none⟩ (.int .i64 (cr i + 1))).alloc (Obj.cells #[Value.int .i64 x] 2))) := ((Below.refl B w).setCell hle _).alloc (by simp; omega) _
  have q0 : Hid (((w.setCell ⟨H, i * 3 + 2, none⟩ (.int .i64 (cr i + 1))).alloc (Obj.cells #[Value.int .i64 x] 2)).cell? ⟨w.heap.size, 0, none⟩ = some (.int .i64 x)) := by
    have h9 := (Bz.new (w.setCell ⟨H, i * 3 + 2, none⟩ (.int .i64 (cr i + 1))) #[Value.int .i64 x] 2).cell 0
    rw [show (w.setCell ⟨H, i * 3 + 2, none⟩ (.int .i64 (cr i + 1))).heap.size = w.heap.size by simp] at h9
    exact h9
  have hBs : Hid (B ≤ ((w.setCell ⟨H, i * 3 + 2, none⟩ (.int .i64 (cr i + 1))).alloc (Obj.cells #[Value.int .i64 x] 2)).heap.size) := by show _ ≤ _; simp; omega
  clear h h1 h2 hba ho
  generalize hv : ov i = v at *
  have HV := kide hv
  clear hv
  go_enter Try.func52, Try.ntmps52
  go_wp2_with (at_builtin; refine wpList_appI8 rfl _ _ rfl B v xs x rfl HO.out _ rfl q0.out (by have := HL.out; omega) hBs.out ?_)
  intro v2 w2 ho2 hg2 hat2
  obtain ⟨a2, n2, cp2, rfl⟩ := owr_form ho2
  have hH := HH.out.block hi (by rw [HV.out]; exact hg2)
  have c02 : w2.cell? ⟨H, i * 3, none⟩ = some v := by rw [World.cell?_of_block hH, ((HH.out.cells hi).1), HV.out]
  have f02 : w2.frozen? ⟨H, i * 3, none⟩ = false := by rw [World.frozen?_of_block hH]; exact HH.out.froz _
  have H3 := kide (HH.out.other (v := .slice a2 n2 cp2) (xs := xs ++ [Value.int .i64 x]) hi (by rw [List.length_append]; exact ho2) (by have := HL.out; rw [List.length_append]; simp; omega) (by rw [HV.out]; exact hg2) (by rw [HV.out]; simpa using hat2))
  have K3 := kide ((KS.out.trans (Ksh.grown hg2 HO.out)).trans (show Ksh w2 (w2.setCell ⟨H, i * 3, none⟩ (.slice a2 n2 cp2)) from by obtain ⟨cc, hh, -⟩ := HH.out.cs; exact Ksh.set (hH.trans hh) _ _))
  have B3 := kide (Below.grown BB.out hg2 hBs.out (fun j hj => (owr_typed HO.out hj).2))
  clear ho2 hg2 hat2 hH HH BB HO
  go_wp2_with fail
  go_end0
  exact ⟨rfl, ⟨_, _, H3.out⟩, B3.out.setCell hle _, K3.out⟩

theorem wrap_in64 (x : Int) : in64 (wrap64 x) := by unfold in64 wrap64; omega

set_option maxHeartbeats 2000000 in
set_option maxRecDepth 100000 in
theorem smallNumber_any (bw : Int) (a : Option Addr) (n c : Nat) (ws : List Nat) (w : World) (hr : Rd w a ws) (hn : ws.length = n) (h0 : 0 < n) :
    Calls Try.prog 60 #[.agg #[.int .i64 bw, .slice a n c]] w fun e w' => ∃ k b, e = .returned (.tuple #[.int .i64 k, .bool b]) ∧ in64 k ∧ Below w.heap.size w w' := by
  obtain ⟨hl, hx, h | ⟨b, o, rfl, hcl⟩⟩ := hr
  · rw [h] at hn; simp at hn; omega
  have hb0 : Below w.heap.size w (w.alloc (Obj.cells #[Value.int .i64 bw, Value.slice (some ⟨b, o, none⟩) n c] 52)) := (Below.refl _ _).alloc (Nat.le_refl _) _
  have B0 := kide hb0
  have X0 := kide (Bz.new w #[Value.int .i64 bw, Value.slice (some ⟨b, o, none⟩) n c] 52)
  have hn2 : n ≤ 1048576 := by omega
  have HC : Hid (∀ i, i < n → w.cell? ⟨b, o + i, none⟩ = some (.int .u64 ((ws.getD i 0 : Nat) : Int))) := fun i hi => hcl i (by omega)
  have HX : Hid (∀ i, i < n → ws.getD i 0 < 18446744073709551616) := fun i hi => by
    have hi' : i < ws.length := by omega
    rw [List.getD_eq_getElem?_getD, List.getElem?_eq_getElem hi']
    exact hx _ (List.getElem_mem hi')
  have hlb := block_lt_of_cell (hcl 0 (by omega))
  clear hcl hx hn hl hb0
  by_cases hc1 : c = 1
  · subst hc1
    go_enter Try.func60, Try.ntmps60
    go_wp2_with fail
    have z0 : (w.alloc (Obj.cells #[Value.int .i64 bw, Value.slice (some ⟨b, o, none⟩) n 1] 52)).cell? ⟨w.heap.size, 1, none⟩ = some (Value.slice (some ⟨b, o, none⟩) n 1) := X0.out.cell 1
    have Z0 := kide z0
    clear z0
    generalize w.alloc (Obj.cells #[Value.int .i64 bw, Value.slice (some ⟨b, o, none⟩) n 1] 52) = W at *
    go_loopw [10] (fun q wr => ∃ k : Nat, k ≤ n - 1 ∧ q = .int .i64 (k : Int) ∧ wr = W) (fun q _ => n - (intOf q).toNat)
    case atStart => exact ⟨0, Nat.zero_le _, rfl, rfl⟩
    case round =>
      obtain ⟨k, hk, rfl, rfl⟩ := hrel
      by_cases hlt : k < n - 1
      · have p0 : wr.cell? ⟨b, o + k, none⟩ = some (.int .u64 ((ws.getD (k) 0 : Nat) : Int)) := (kcell B0.out b (o + k) hlb).trans (by first | exact HC.out (k) (by omega) | (rw [Nat.add_assoc]; exact HC.out (k) (by omega)))
        generalize ws.getD (k) 0 = X at *
        have i0 : (k : Int) < ((n - 1 : Nat) : Int) := by omega
        by_cases hX : X = 0
        · subst hX
          go_wp2_with fail
          go_roundw
          case rel => exact ⟨k + 1, by omega, by go_num, by simp⟩
          case measure => simp [intOf]; omega
        · have hX2 : ((X : Int) != 0) = true := by simp; omega
          clear hX
          go_wp2_with fail
          go_returns
          exact ⟨0, false, rfl, ⟨by omega, by omega⟩, B0.out⟩
      · have p0 : wr.cell? ⟨b, o, none⟩ = some (.int .u64 ((ws.getD 0 0 : Nat) : Int)) := (kcell B0.out b o hlb).trans (HC.out 0 h0)
        have hx0 := HX.out 0 h0
        have z0 := Z0.out
        generalize ws.getD 0 0 = X at *
        have n0 : (0 : Int) < (n : Int) := by omega
        go_wp2_with fail
        go_quiet (fail)
        go_wp2_with fail
        go_returns
        exact ⟨_, _, rfl, wrap_in64 _, below_drewN B0.out _⟩
  · skip
    go_enter Try.func60, Try.ntmps60
    go_wp2_with fail
    have z0 : (w.alloc (Obj.cells #[Value.int .i64 bw, Value.slice (some ⟨b, o, none⟩) n c] 52)).cell? ⟨w.heap.size, 1, none⟩ = some (Value.slice (some ⟨b, o, none⟩) n c) := X0.out.cell 1
    have Z0 := kide z0
    clear z0
    generalize w.alloc (Obj.cells #[Value.int .i64 bw, Value.slice (some ⟨b, o, none⟩) n c] 52) = W at *
    go_loopw [10] (fun q wr => ∃ k : Nat, k ≤ n - 1 ∧ q = .int .i64 (k : Int) ∧ wr = W) (fun q _ => n - (intOf q).toNat)
    case atStart => exact ⟨0, Nat.zero_le _, rfl, rfl⟩
    case round =>
      obtain ⟨k, hk, rfl, rfl⟩ := hrel
      by_cases hlt : k < n - 1
      · have p0 : wr.cell? ⟨b, o + 1 + k, none⟩ = some (.int .u64 ((ws.getD (1 + k) 0 : Nat) : Int)) := (kcell B0.out b (o + 1 + k) hlb).trans (by first | exact HC.out (1 + k) (by omega) | (rw [Nat.add_assoc]; exact HC.out (1 + k) (by omega)))
        generalize ws.getD (1 + k) 0 = X at *
        have i0 : (k : Int) < ((n - 1 : Nat) : Int) := by omega
        by_cases hX : X = 0
        · subst hX
          go_wp2_with fail
          go_roundw
          case rel => exact ⟨k + 1, by omega, by go_num, by simp⟩
          case measure => simp [intOf]; omega
        · have hX2 : ((X : Int) != 0) = true := by simp; omega
          clear hX
          go_wp2_with fail
          go_returns
          exact ⟨0, false, rfl, ⟨by omega, by omega⟩, B0.out⟩
      · have p0 : wr.cell? ⟨b, o, none⟩ = some (.int .u64 ((ws.getD 0 0 : Nat) : Int)) := (kcell B0.out b o hlb).trans (HC.out 0 h0)
        have hx0 := HX.out 0 h0
        have z0 := Z0.out
        generalize ws.getD 0 0 = X at *
        have n0 : (0 : Int) < (n : Int) := by omega
        go_wp2_with fail
        go_quiet (fail)
        go_wp2_with fail
        go_returns
        exact ⟨_, _, rfl, wrap_in64 _, below_drewN B0.out _⟩

theorem i64Keyed : Keyed Try.prog 2 := int_keyed Try.underlying2
theorem keyOf_i64 {k : Int} (h : in64 k) : keyOf Try.prog 2 (.int .i64 k) = some (.int .i64 k) := keyOf_int_mk Try.underlying2 (WalkArith.wf_i64 h)
theorem make_vals (w : World) : (Instr.makeMap 73 none).run Try.prog w = .ok (.map (some w.heap.size)) (w.alloc (.map #[] 0)) := by
  have h := Try.underlying73
  simp [Instr.makeMap, go_sem, h]

theorem rd_far {w w' : World} {B : Nat} {a : Option Addr} {ws : List Nat} (h : Rd w a ws) (hf : ∀ b o sp, a = some ⟨b, o, sp⟩ → b < B) (hb : Below B w w') : Rd w' a ws := by
  obtain ⟨h1, h2, h3⟩ := h
  refine ⟨h1, h2, ?_⟩
  rcases h3 with h3 | ⟨b, o, rfl, hc⟩
  · exact .inl h3
  · exact .inr ⟨b, o, rfl, fun i hi => by rw [hb.cell (p := ⟨b, o + i, none⟩) (hf b o none rfl)]; exact hc i hi⟩

set_option maxHeartbeats 2000000 in
set_option maxRecDepth 100000 in
theorem addValue_any (B H n K i : Nat) (ov mv : Nat → Value) (cr : Nat → Int) (bw : Int) (a : Option Addr) (wn c : Nat) (ws : List Nat) (w : World) (h : Hg w B H n K ov mv cr) (hi : i < n) (hK : K ≤ 1048576) (hc : 0 ≤ cr i ∧ cr i ≤ 1048576) (hr : Rd w a ws) (hwn : ws.length = wn) (h0 : 0 < wn) (hfar : ∀ b o sp, a = some ⟨b, o, sp⟩ → b < B) :
    Calls Try.prog 51 #[.pointer (some ⟨H, i * 3, none⟩), .agg #[.int .i64 bw, .slice a wn c]] w fun e w' => e = .returned (.tuple #[]) ∧ HgE w' B H n (K + 1) (upd cr i (cr i + 1)) ∧ Below B w w' ∧ Ksh w w' := by
  obtain ⟨c0, c1, c2⟩ := h.cells hi
  have f2 := h.froz (i * 3 + 2)
  have hlH := h.lt
  have hle := h.le
  have hsz : (w.setCell ⟨H, i * 3 + 2, none⟩ (.int .i64 (cr i + 1))).heap.size = w.heap.size := by simp
  have hbx : Below (w.setCell ⟨H, i * 3 + 2, none⟩ (.int .i64 (cr i + 1))).heap.size (w.setCell ⟨H, i * 3 + 2, none⟩ (.int .i64 (cr i + 1))) ((w.setCell ⟨H, i * 3 + 2, none⟩ (.int .i64 (cr i + 1))).alloc (Obj.cells #[Value.int .i64 bw, Value.slice a wn c] 52)) := (Below.refl _ _).alloc (Nat.le_refl _) _
  have H1 := kide ((h.crowd i (cr i + 1)).later hbx)
  have X1 : Hid (Bz ((w.setCell ⟨H, i * 3 + 2, none⟩ (.int .i64 (cr i + 1))).alloc (Obj.cells #[Value.int .i64 bw, Value.slice a wn c] 52)) w.heap.size #[Value.int .i64 bw, Value.slice a wn c] 52) := by
    have h9 := Bz.new (w.setCell ⟨H, i * 3 + 2, none⟩ (.int .i64 (cr i + 1))) #[Value.int .i64 bw, Value.slice a wn c] 52
    rw [hsz] at h9
    exact h9
  have B1 : Hid (Below B w ((w.setCell ⟨H, i * 3 + 2, none⟩ (.int .i64 (cr i + 1))).alloc (Obj.cells #[Value.int .i64 bw, Value.slice a wn c] 52))) := ((Below.refl B w).setCell hle _).alloc (by rw [hsz]; omega) _
  have KS := kide ((show Ksh w (w.setCell ⟨H, i * 3 + 2, none⟩ (.int .i64 (cr i + 1))) from by obtain ⟨cc, hh, -⟩ := h.cs; exact Ksh.set hh _ _).trans (Ksh.of hbx))
  have HR := kide (smallNumber_any bw a wn c ws _ (rd_far hr hfar B1.out) hwn h0)
  have hne1 : ¬ w.heap.size = H := by omega
  have hne2 : ¬ H = w.heap.size := by omega
  have d2 : (w.alloc (Obj.cells #[Value.int .i64 bw, Value.slice a wn c] 52)).cell? ⟨H, i * 3 + 2, none⟩ = some (.int .i64 (cr i)) := ((h.later ((Below.refl _ _).alloc (Nat.le_refl _) _)).cells hi).2.2
  have e2 : (w.alloc (Obj.cells #[Value.int .i64 bw, Value.slice a wn c] 52)).frozen? ⟨H, i * 3 + 2, none⟩ = false := (h.later ((Below.refl _ _).alloc (Nat.le_refl _) _)).froz (i * 3 + 2)
  have z0 : ((w.setCell ⟨H, i * 3 + 2, none⟩ (.int .i64 (cr i + 1))).alloc (Obj.cells #[Value.int .i64 bw, Value.slice a wn c] 52)).cell? ⟨w.heap.size, 0, none⟩ = some (Value.int .i64 bw) := X1.out.cell 0
  have z1 : ((w.setCell ⟨H, i * 3 + 2, none⟩ (.int .i64 (cr i + 1))).alloc (Obj.cells #[Value.int .i64 bw, Value.slice a wn c] 52)).cell? ⟨w.heap.size, 1, none⟩ = some (Value.slice a wn c) := X1.out.cell 1
  clear h hbx hr hwn h0 hfar hsz
  go_enter Try.func51, Try.ntmps51
  go_wp2_with fail
  refine Calls.mono HR.out ?_
  rintro e w3 ⟨k, b, rfl, hk, hb3⟩
  have H3 := kide (H1.out.later hb3)
  have K3 := kide (KS.out.trans (Ksh.of hb3))
  have B3 := kide (B1.out.trans (hb3.mono (Nat.le_trans (Nat.le_trans hle (Nat.le_of_lt hlH)) B1.out.size)))
  have hz3 : B ≤ w3.heap.size := by have := H3.out.lt; omega
  clear H1 B1 X1 HR c0 c1 c2 f2 d2 e2 z0 z1 hb3
  cases b with
  | false =>
    go_wp2_with fail
    refine bodyPost_ret (v := .tuple #[]) (by simp [results, Try.results51, go_sem]) rfl ?_
    exact ⟨rfl, ⟨_, _, H3.out.more (Nat.le_succ K)⟩, B3.out, K3.out⟩
  | true =>
    have c1 := (H3.out.cells hi).2.1
    have f1 := H3.out.froz (i * 3 + 1)
    have qm : ∀ (w : World) (r : Option Nat), (binOp .eql 73 (.map r) (.map none)).run Try.prog w = .ok (.bool r.isNone) w := fun w r => run_eql_map_nil w _ _ _ r Try.underlying73
    have hmm := make_vals
    have hkey := keyOf_i64 hk
    rcases H3.out.mp i hi with hm | ⟨g, m, D, hm, ho, hmK, hgB⟩
    · rw [hm] at c1
      have hbm : Below w3.heap.size w3 (w3.alloc (.map #[] 0)) := (Below.refl _ _).alloc (Nat.le_refl _) _
      have H4 := H3.out.later hbm
      have hlt4 := H3.out.lt
      have o4 : (w3.alloc (.map #[] 0)).ownsMap Try.prog 2 unitElem w3.heap.size 0 (.map [] : DataW Unit) := World.ownsMap_made _ _ _ _
      have H5 := H4.made (i := i) o4 (Nat.zero_le K) (by omega)
      have hsw : (w3.alloc (.map #[] 0)).setCell ⟨H, i * 3 + 1, none⟩ (.map (some w3.heap.size)) = (w3.setCell ⟨H, i * 3 + 1, none⟩ (.map (some w3.heap.size))).alloc (.map #[] 0) := World.setCell_alloc_past _ _ _ _ hlt4
      have B5 : Below B w ((w3.alloc (.map #[] 0)).setCell ⟨H, i * 3 + 1, none⟩ (.map (some w3.heap.size))) := (B3.out.alloc hz3 _).setCell hle _
      have K5 : Ksh w ((w3.alloc (.map #[] 0)).setCell ⟨H, i * 3 + 1, none⟩ (.map (some w3.heap.size))) := (K3.out.trans (Ksh.of hbm)).trans (by obtain ⟨cc, hh, -⟩ := H4.cs; exact Ksh.set hh _ _)
      rw [hsw] at H5 B5 K5
      have KK5 := kide K5
      clear K5
      have o5 : ((w3.setCell ⟨H, i * 3 + 1, none⟩ (.map (some w3.heap.size))).alloc (.map #[] 0)).ownsMap Try.prog 2 unitElem w3.heap.size 0 (.map [] : DataW Unit) := by
        rw [← hsw]
        exact own_below o4 (fun hl => heap_setCell_other _ _ _ _ (by simp; omega))
      have z1 : ((w3.setCell ⟨H, i * 3 + 1, none⟩ (.map (some w3.heap.size))).alloc (.map #[] 0)).cell? ⟨H, i * 3 + 1, none⟩ = some (.map (some w3.heap.size)) := by
        have h9 := (H5.cells hi).2.1
        rw [upd_same] at h9
        exact h9
      have d1 : (w3.alloc (.map #[] 0)).cell? ⟨H, i * 3 + 1, none⟩ = some (.map none) := by rw [(H4.cells hi).2.1, hm]
      have e1 := H4.froz (i * 3 + 1)
      have hne3 : ¬ w3.heap.size = H := by omega
      have hne4 : ¬ H = w3.heap.size := by omega
      have HO := kide o5
      have HH5 := kide H5
      have BB5 := kide B5
      clear H4 H5 B5 o4 o5 hsw hm hbm
      go_wp2_with (first
          | (at_mapUpdate; refine wpList_mapUpdate_in _ rfl _ _ _ 73 rfl 2 83 i64Keyed Try.underlying73 unitElem w3.heap.size 0 (.map []) rfl HO.out (by unfold maxLen; omega) _ _ _ rfl rfl hkey (.agg []) [] unitElem_mk ?_)
          | fail)
      intro w6 ho6 ht6
      have H6 := kide ((HH5.out.more (Nat.le_succ K)).turned ho6 (by omega) ht6)
      have K6 := kide (KK5.out.trans (Ksh.turned ht6))
      have B6 := kide (Below.grown BB5.out ht6.grown (by have := BB5.out.size; omega) (fun j hj => by cases hj; exact hz3))
      clear ho6 ht6
      go_wp2_with fail
      go_end0
      exact ⟨rfl, ⟨_, _, H6.out⟩, B6.out, K6.out⟩
    · rw [hm] at c1
      have HO := kide ho
      have hz4 := B3.out.size
      clear ho hm
      go_wp2_with (first
          | (at_mapUpdate; refine wpList_mapUpdate_in _ rfl _ _ _ 73 rfl 2 83 i64Keyed Try.underlying73 unitElem g m D rfl HO.out (by unfold maxLen; omega) _ _ _ rfl rfl hkey (.agg []) [] unitElem_mk ?_)
          | fail)
      intro w6 ho6 ht6
      have H6 := kide ((H3.out.more (Nat.le_succ K)).turned ho6 (by omega) ht6)
      have K6 := kide (K3.out.trans (Ksh.turned ht6))
      have B6 := kide (Below.grown B3.out ht6.grown hz3 (fun j hj => by cases hj; exact hgB))
      clear ho6 ht6
      go_wp2_with fail
      go_end0
      exact ⟨rfl, ⟨_, _, H6.out⟩, B6.out, K6.out⟩

end Go.Proofs.Ytddgldfjeklhbaa
