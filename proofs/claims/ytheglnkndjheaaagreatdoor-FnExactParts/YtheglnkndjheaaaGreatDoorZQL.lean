/- Several texts in one. -/
import Derived.Test.YtheglnkndjheaaaGreatDoorZQF
import Derived.Handy

/- The program's countKids. -/
namespace Go.Proofs.YtheglnkndjheaaaGreatDoor
set_option linter.unusedVariables false
set_option linter.unusedSimpArgs false
open Go.RowKit

/-- How often a place stands among kids. -/
def cntR (ks : List Int) (j : Nat) : Nat := ks.countP (fun y => decide (y = (j : Int)))

/-- A row of counts. -/
def Cn (w : World) (P N : Nat) (q : Nat → Nat) : Prop := ∃ f, w.rowIs P 2 N f ∧ ∀ j, j < N → f j = .int .i64 ((q j : Nat) : Int)

theorem Cn.later {w w' : World} {P N : Nat} {q : Nat → Nat} (h : Cn w P N q) (hb : Below w.heap.size w w') : Cn w' P N q := by
  obtain ⟨f, ⟨cc, hh, h1, h2⟩, hq⟩ := h
  exact ⟨f, World.rowIs.of_block ⟨cc, hh, h1, h2⟩ (hb.block _ (lt_of_block hh)), hq⟩

set_option maxHeartbeats 1000000 in
theorem countKids_any (P N k cp kc M : Nat) (q : Nat → Nat) (ka : Option Addr) (ks : List Int) (w : World) (hc : Cn w P N q) (hk : k ≤ N) (hN : N ≤ 1048576) (hq : ∀ j, q j ≤ M) (hM : M ≤ 1000000000000) (hr : RdI w ka ks) (hf : ∀ b o sp, ka = some ⟨b, o, sp⟩ → b ≠ P) :
    Calls Tryz.prog 89 #[.slice (some ⟨P, 0, none⟩) k cp, .slice ka ks.length kc] w fun e w' => e = .returned (.bool (kidsR k ks)) ∧ (kidsR k ks = true → Cn w' P N (fun j => q j + cntR ks j)) ∧ w.grownBy w' (some P) := by
  have hl := hr.1
  have HF := kide hf
  have HQ := kide hq
  clear hf hq
  generalize hZ : kidsR k ks = Z
  have HZ := kide hZ
  clear hZ
  go_enter Tryz.func89, Tryz.ntmps89
  go_wp2_with fail
  go_loopw [9] (fun i wr => ∃ t : Nat, t ≤ ks.length ∧ i = .int .i64 (t : Int) ∧ kidsR k (ks.take t) = true ∧ Cn wr P N (fun j => q j + cntR (ks.take t) j) ∧ w.grownBy wr (some P)) (fun i _ => ks.length - (intOf i).toNat)
  case atStart => exact ⟨0, Nat.zero_le _, rfl, by simp [kidsR], by simpa [cntR] using hc, ⟨rfl, rfl, rfl, Nat.le_refl _, fun _ _ _ => rfl⟩⟩
  case round =>
    obtain ⟨t, ht, rfl, hkr, hcn, hg⟩ := hrel
    have HKR := kide hkr
    have HCN := kide hcn
    have HG := kide hg
    clear hkr
    by_cases htl : t < ks.length
    · obtain ⟨-, -, h | ⟨b, o, rfl, hc3⟩⟩ := hr
      · subst h; simp at htl
      have hbP : b ≠ P := HF.out b o none rfl
      have g0 := hc3 t htl
      rw [← World.cell?_of_block (w := w) (w' := wr) (a := ⟨b, o + t, none⟩) (hg.block b (block_lt_of_cell g0) (fun e => hbP (by cases e; rfl)))] at g0
      have hgt : ks[t]? = some (ks.getD t 0) := by simp [List.getD, htl]
      have HGT := kide hgt
      clear hgt hc3 hg
      generalize ks.getD t 0 = y at *
      have i0 : (t : Int) < (ks.length : Int) := by omega
      by_cases hy : 0 ≤ y ∧ y ≤ (k : Int) - 1
      · obtain ⟨m, rfl⟩ : ∃ m : Nat, y = (m : Int) := ⟨y.toNat, by omega⟩
        have hm : m < k := by omega
        obtain ⟨f, hrw, hfq⟩ := hcn
        have q0 := hrw.cell (i := m) (by omega)
        have r0 := hrw.frozen m
        have q1 : wr.cell? ⟨P, m, none⟩ = some (.int .i64 ((q m + cntR (ks.take t) m : Nat) : Int)) := by rw [q0, hfq m (by omega)]
        clear q0
        have hqb : q m + cntR (ks.take t) m ≤ 2000000000000 := by
          have h1 := HQ.out m
          have h2 : cntR (ks.take t) m ≤ (ks.take t).length := List.countP_le_length
          rw [List.length_take] at h2
          omega
        have HRW := kide hrw
        have HFQ := kide hfq
        generalize hS : q m + cntR (ks.take t) m = S at *
        have HSS := kide hS
        clear hrw hfq hy hS
        go_wp2_with fail
        go_roundw
        case rel =>
          refine ⟨t + 1, by omega, by go_num, ?_, ⟨_, World.rowIs.set HRW.out m (.int .i64 ((S : Int) + 1)), fun j hj => ?_⟩, ?_⟩
          · rw [List.take_add_one, HGT.out, kidsR, List.all_append]
            have := HKR.out
            rw [kidsR] at this
            rw [this]
            simp
            omega
          · have hcj : cntR (ks.take (t + 1)) j = cntR (ks.take t) j + (if m = j then 1 else 0) := by
              unfold cntR
              rw [List.take_add_one, HGT.out, List.countP_append]
              by_cases e : m = j
              · subst e; simp
              · have e2 : ¬ ((m : Int) = (j : Int)) := by omega
                simp [e, e2]
            show (if j = m then _ else _) = Value.int .i64 ((q j + cntR (ks.take (t + 1)) j : Nat) : Int)
            rw [hcj]
            by_cases e : j = m
            · subst e
              have := HSS.out
              rw [if_pos rfl, if_pos rfl]
              congr 1
              omega
            · rw [if_neg e, if_neg (fun h => e h.symm), HFQ.out j hj]
              rfl
          · have h := HG.out
            exact ⟨h.os, h.tape, h.output, by simpa using h.size, fun x hx hne => by rw [heap_setCell_other _ _ _ _ (fun e => hne (by simp at e; rw [e]))]; exact h.block x hx hne⟩
        case measure => simp [intOf]; omega
      · have hZf : Z = false := by
          rw [← HZ.out, kidsR, List.all_eq_false]
          exact ⟨y, List.mem_of_getElem? HGT.out, by simpa using hy⟩
        subst hZf
        have hor : y < 0 ∨ (k : Int) ≤ y := by omega
        clear hy hcn
        rcases hor with hor | hor
        · go_wp2_with fail
          go_ret
          first | exact ⟨rfl, HG.out⟩ | exact ⟨rfl, (by intro h; cases h), HG.out⟩
        · have h0 : ¬ y < 0 := by omega
          go_wp2_with fail
          go_ret
          first | exact ⟨rfl, HG.out⟩ | exact ⟨rfl, (by intro h; cases h), HG.out⟩
    · have e : t = ks.length := by omega
      subst e
      have hZt : Z = true := by
        have := HKR.out
        rw [List.take_length] at this
        rw [← HZ.out]; exact this
      subst hZt
      clear hcn hg hr hc
      go_wp2_with fail
      go_ret
      have h := HCN.out
      rw [List.take_length] at h
      exact ⟨rfl, h, HG.out⟩

end Go.Proofs.YtheglnkndjheaaaGreatDoor

/- The program's fieldsOk, over the table `forms`. -/
namespace Go.Proofs.YtheglnkndjheaaaGreatDoor
set_option linter.unusedVariables false
set_option linter.unusedSimpArgs false
open Go.RowKit

/-- The table: how many numbers, at least, at most how many terms an Op has. -/
def tabR : Nat → Int × Int × Int
  | 3 => (0, 2, 4096)
  | 4 => (2, 1, 1)
  | 5 => (1, 1, 1)
  | 6 => (1, 1, 1)
  | 7 => (1, 1, 1)
  | 8 => (1, 1, 1)
  | 9 => (1, 1, 1)
  | _ => (0, 0, 0)

/-- The table lies in the program's first block. -/
def GF (w : World) : Prop := ∀ m, m < 10 → (∃ s, w.cell? ⟨0, m * 4, none⟩ = some (.string s)) ∧ w.cell? ⟨0, m * 4 + 1, none⟩ = some (.int .i64 (tabR m).1) ∧ w.cell? ⟨0, m * 4 + 2, none⟩ = some (.int .i64 (tabR m).2.1) ∧ w.cell? ⟨0, m * 4 + 3, none⟩ = some (.int .i64 (tabR m).2.2)

theorem GF.later {w w' : World} (h : GF w) (hb : Below w.heap.size w w') : GF w' := by
  intro m hm
  obtain ⟨⟨s, h0⟩, h1, h2, h3⟩ := h m hm
  have l := block_lt_of_cell h1
  exact ⟨⟨s, by rw [kcell hb _ _ l]; exact h0⟩, by rw [kcell hb _ _ l]; exact h1, by rw [kcell hb _ _ l]; exact h2, by rw [kcell hb _ _ l]; exact h3⟩

def fldT (op vr a b bw : Int) (wl kl : Nat) (N L M : Int) : Bool :=
  !(op != 1 && vr != 0 || decide (N < 1) && a != 0 || decide (N < 2) && b != 0) && !(op != 2 && (bw != 0 || decide (wl ≠ 0))) && (decide (L ≤ (kl : Int)) && decide ((kl : Int) ≤ M))

/-- What the program asks of the fields. -/
def fldR (n : Tc) : Bool := decide (1 ≤ n.op ∧ n.op ≤ 9) && fldT n.op n.vr n.a n.b n.bw n.ws.length n.ks.length (tabR n.op.toNat).1 (tabR n.op.toNat).2.1 (tabR n.op.toNat).2.2

set_option maxHeartbeats 2000000 in
theorem fieldsOk_any (n : Tc) (wa ka : Option Addr) (wc kc : Nat) (w : World) (hG : GF w) (hw : n.ws.length ≤ 1048576) (hk : n.ks.length ≤ 1048576) :
    Calls Tryz.prog 88 #[.agg #[.int .i64 n.op, .int .i64 n.vr, .int .i64 n.a, .int .i64 n.b, .int .i64 n.bw, .slice wa n.ws.length wc, .slice ka n.ks.length kc]] w fun e w' => e = .returned (.bool (fldR n)) ∧ Below w.heap.size w w' := by
  generalize hZ : fldR n = Z
  have HZ := kide hZ
  clear hZ
  obtain ⟨op, vr, A, B, bw, ws, ks⟩ := n
  simp only [] at hw hk ⊢
  have hb0 : Below w.heap.size w (w.alloc (Obj.cells #[Value.int .i64 op, Value.int .i64 vr, Value.int .i64 A, Value.int .i64 B, Value.int .i64 bw, Value.slice wa ws.length wc, Value.slice ka ks.length kc] 104)) := (Below.refl _ _).alloc (Nat.le_refl _) _
  have B0 := kide hb0
  by_cases hr : 1 ≤ op ∧ op ≤ 9
  · obtain ⟨m, rfl⟩ : ∃ m : Nat, op = (m : Int) := ⟨op.toNat, by omega⟩
    obtain ⟨⟨s, t0⟩, t1, t2, t3⟩ := hG m (by omega)
    have l0 : 0 < w.heap.size := block_lt_of_cell t1
    have hz : fldT (m : Int) vr A B bw ws.length ks.length (tabR m).1 (tabR m).2.1 (tabR m).2.2 = Z := by
      have h := HZ.out
      rw [fldR, decide_eq_true hr, Bool.true_and] at h
      simpa using h
    obtain ⟨NN, hNN⟩ : ∃ x, x = (tabR m).1 := ⟨_, rfl⟩
    obtain ⟨LL, hLL⟩ : ∃ x, x = (tabR m).2.1 := ⟨_, rfl⟩
    obtain ⟨MM, hMM⟩ : ∃ x, x = (tabR m).2.2 := ⟨_, rfl⟩
    rw [← hNN] at t1 hz
    rw [← hLL] at t2 hz
    rw [← hMM] at t3 hz
    have HZ2 := kide hz
    have hm1 : 1 ≤ m := by omega
    have hm9 : m ≤ 9 := by omega
    clear HZ hz hG hb0 hNN hLL hMM hr
    go_enter Tryz.func88, Tryz.ntmps88
    go_wp2_with fail
    all_goals go_ret
    all_goals refine ⟨ret_bool ?_, Below.alloc (Below.alloc (Below.refl _ _) (Nat.le_refl _) _) (by simp) _⟩
    all_goals (have h := HZ2.out; clear HZ2 B0 t0 t1 t2 t3; rw [← h]; clear h; unfold fldT; cases hB : (B != 0) <;> cases hA : (A != 0) <;> cases hV : (vr != 0) <;> cases hM : ((m : Int) != 1) <;> cases hM2 : ((m : Int) != 2) <;> cases hW : (bw != 0) <;> simp_all <;> omega)
  · have hz := HZ.out
    rw [fldR, decide_eq_false hr, Bool.false_and] at hz
    subst hz
    have hor : op < 1 ∨ 9 < op := by omega
    clear HZ hG hb0 hr
    rcases hor with hor | hor
    · go_enter Tryz.func88, Tryz.ntmps88
      go_wp2_with fail
      go_ret
      exact ⟨rfl, B0.out⟩
    · have h1 : ¬ op < 1 := by omega
      go_enter Tryz.func88, Tryz.ntmps88
      go_wp2_with fail
      go_ret
      exact ⟨rfl, B0.out⟩

end Go.Proofs.YtheglnkndjheaaaGreatDoor

/- The program's width of a node: the plain side, and boundWidth. -/
namespace Go.Proofs.YtheglnkndjheaaaGreatDoor
set_option linter.unusedVariables false
set_option linter.unusedSimpArgs false
open Go.RowKit

/-- A width in bounds, and a code. -/
def bndR (x : Int) : Int × Int := if x < 1 then (0, 15) else if 4096 < x then (0, 16) else (x, 0)

theorem boundWidth_any (x : Int) (w : World) : Calls Tryz.prog 141 #[.int .i64 x] w fun e w' => e = .returned (.tuple #[.int .i64 (bndR x).1, .int .i64 (bndR x).2]) ∧ w' = w := by
  by_cases h1 : x < 1
  · rw [bndR, if_pos h1]
    go_enter Tryz.func141, Tryz.ntmps141
    go_wp2_with fail
    go_returns
    exact ⟨rfl, rfl⟩
  · by_cases h2 : 4096 < x
    · rw [bndR, if_neg h1, if_pos h2]
      go_enter Tryz.func141, Tryz.ntmps141
      go_wp2_with fail
      go_returns
      exact ⟨rfl, rfl⟩
    · rw [bndR, if_neg h1, if_neg h2]
      go_enter Tryz.func141, Tryz.ntmps141
      go_wp2_with fail
      go_returns
      exact ⟨rfl, rfl⟩

/-- The kids' widths. -/
def kwR (wide : List Int) (ks : List Int) : List Int := ks.map fun k => wide.getD k.toNat 0
def sumK : List Int → Int
  | [] => 0
  | x :: t => x + sumK t

/-- What the program says of a node: a width and a code. -/
def nodR (ds : List Dc) (n : Tc) (ys : List Int) : Int × Int :=
  if n.op = 1 then (if 0 ≤ n.vr ∧ n.vr < ds.length then bndR (ds.getD n.vr.toNat (.empty, 0)).2 else (0, 15))
  else if n.op = 2 then (if rightB n.bw n.ws = true then (n.bw, 0) else (0, 15))
  else if n.op = 3 then bndR (sumK ys)
  else if n.op = 4 then (if n.b < 0 ∨ n.a < n.b ∨ ys.getD 0 0 ≤ n.a then (0, 15) else (n.a - n.b + 1, 0))
  else if n.op = 5 ∨ n.op = 6 then (if 0 ≤ n.a ∧ n.a ≤ 4096 then bndR (ys.getD 0 0 + n.a) else (0, 15))
  else if n.op = 7 ∨ n.op = 8 then (if 0 ≤ n.a ∧ n.a ≤ 4096 then (ys.getD 0 0, 0) else (0, 15))
  else (if 1 ≤ n.a ∧ n.a ≤ 4096 then bndR (ys.getD 0 0 * n.a) else (0, 15))

theorem bndR_spec (x : Int) : (1 ≤ x ∧ x ≤ 4096 → bndR x = (x, 0)) ∧ (¬ (1 ≤ x ∧ x ≤ 4096) → (bndR x).2 ≠ 0) := by
  unfold bndR
  constructor
  · intro h; rw [if_neg (by omega), if_neg (by omega)]
  · intro h
    split
    · simp
    · split
      · simp
      · omega

theorem kids_get {wide ks : List Int} (hw : ∀ x ∈ wide, 1 ≤ x ∧ x ≤ 4096) (hk : kidsR wide.length ks = true) : ∀ k ∈ ks, 1 ≤ wide.getD k.toNat 0 ∧ wide.getD k.toNat 0 ≤ 4096 := by
  intro k hkm
  simp only [kidsR, List.all_eq_true, decide_eq_true_eq] at hk
  have := hk k hkm
  have hl : k.toNat < wide.length := by omega
  have := hw _ (List.getElem_mem hl)
  simp [List.getD, hl]
  omega

theorem sumR_min {wide ks : List Int} (hw : ∀ k ∈ ks, 1 ≤ wide.getD k.toNat 0 ∧ wide.getD k.toNat 0 ≤ 4096) (s : Int) (h0 : 0 ≤ s) (h1 : s ≤ 8192) : sumR wide ks s = min 8192 (s + sumK (kwR wide ks)) ∧ (ks.length : Int) ≤ sumK (kwR wide ks) := by
  induction ks generalizing s with
  | nil => simp [sumR, sumK, kwR]; omega
  | cons k t ih =>
    have hk := hw k (by simp)
    obtain ⟨e1, e2⟩ := ih (fun x hx => hw x (by simp [hx])) (min 8192 (s + wide.getD k.toNat 0)) (by omega) (by omega)
    rw [sumR, e1]
    have e3 : sumK (kwR wide (k :: t)) = wide.getD k.toNat 0 + sumK (kwR wide t) := by simp [kwR, sumK]
    rw [e3]
    refine ⟨by omega, ?_⟩
    simp only [List.length_cons]
    omega

end Go.Proofs.YtheglnkndjheaaaGreatDoor

/- That the program's fields, kids and width are what a right node asks. -/
namespace Go.Proofs.YtheglnkndjheaaaGreatDoor
set_option linter.unusedVariables false
set_option linter.unusedSimpArgs false
open Go.RowKit

theorem op_cases {x : Int} (h1 : 1 ≤ x) (h9 : x ≤ 9) : x = 1 ∨ x = 2 ∨ x = 3 ∨ x = 4 ∨ x = 5 ∨ x = 6 ∨ x = 7 ∨ x = 8 ∨ x = 9 := by omega

theorem kw_one {wide ks : List Int} (h : ks.length = 1) : (kwR wide ks).getD 0 0 = sumK (kwR wide ks) := by
  match ks, h with
  | [k], _ => simp [kwR, sumK]

/-- A node of which the step tells a width has the fields and kids that the program asks for. -/
theorem step_some {ds : List Dc} {wide : List Int} {n : Tc} {v : Int} (hw : ∀ x ∈ wide, 1 ≤ x ∧ x ≤ 4096) (h : stepR ds wide n = some v) : fldR n = true ∧ kidsR wide.length n.ks = true := by
  have h0 := stepR_kids h
  simp only [Bool.and_eq_true] at h0
  obtain ⟨⟨hk, hf⟩, hm⟩ := h0
  refine ⟨?_, hk⟩
  have hg := kids_get hw hk
  obtain ⟨hs, hl⟩ := sumR_min hg 0 (by omega) (by omega)
  have hr := stepR_range h
  have hwd : wideR ds n (sumR wide n.ks 0) ≤ 4096 := by
    unfold stepR at h
    split at h
    · split at h
      · rename_i hb; exact hb.2
      · cases h
    · cases h
  clear h hr
  obtain ⟨op, vr, a, b, bw, ws, ks⟩ := n
  simp only [] at *
  have hop : 1 ≤ op ∧ op ≤ 9 := by
    unfold manyR at hm
    simp only [] at hm
    split at hm
    · omega
    · split at hm
      · omega
      · split at hm
        · omega
        · split at hm
          · omega
          · cases hm
  rcases op_cases hop.1 hop.2 with rfl | rfl | rfl | rfl | rfl | rfl | rfl | rfl | rfl
  case inr.inr.inl =>
    simp only [fldR, fldT, tabR, manyR, fieldR, wideR] at *
    simp at hf hm hwd ⊢
    rw [hs] at hwd
    refine ⟨⟨⟨⟨hf.1.1.1, hf.2⟩, hf.1.2⟩, hf.1.1.2.1, hf.1.1.2.2⟩, by omega, by omega⟩
  all_goals
    simp only [fldR, fldT, tabR, manyR, fieldR] at *
    simp at hf hm ⊢
    grind

theorem bndR_if (x : Int) : (if (bndR x).2 = 0 then some (bndR x).1 else none) = (if 1 ≤ x ∧ x ≤ 4096 then some x else (none : Option Int)) := by
  by_cases h : 1 ≤ x ∧ x ≤ 4096
  · rw [(bndR_spec x).1 h, if_pos rfl, if_pos h]
  · rw [if_neg ((bndR_spec x).2 h), if_neg h]

theorem fldR_op {n : Tc} (h : fldR n = true) : 1 ≤ n.op ∧ n.op ≤ 9 := by
  simp only [fldR, Bool.and_eq_true, decide_eq_true_eq] at h
  exact h.1

/-- .. and the program's width of such a node is the step's. -/
theorem step_both {ds : List Dc} {wide : List Int} {n : Tc} (hw : ∀ x ∈ wide, 1 ≤ x ∧ x ≤ 4096) (hf : fldR n = true) (hk : kidsR wide.length n.ks = true) :
    stepR ds wide n = (if (nodR ds n (kwR wide n.ks)).2 = 0 then some (nodR ds n (kwR wide n.ks)).1 else none) := by
  have hg := kids_get hw hk
  obtain ⟨hs, hl⟩ := sumR_min hg 0 (by omega) (by omega)
  have hop := fldR_op hf
  unfold stepR
  rw [hk, Bool.true_and]
  obtain ⟨op, vr, a, b, bw, ws, ks⟩ := n
  simp only [] at *
  have hone : ks.length = 1 → (kwR wide ks).getD 0 0 = sumK (kwR wide ks) ∧ sumR wide ks 0 = sumK (kwR wide ks) ∧ 1 ≤ sumK (kwR wide ks) ∧ sumK (kwR wide ks) ≤ 4096 := by
    intro h1
    have e := kw_one (wide := wide) h1
    have : 1 ≤ sumK (kwR wide ks) ∧ sumK (kwR wide ks) ≤ 4096 := by
      match ks, h1 with
      | [k], _ =>
        have := hg k (by simp)
        simpa [kwR, sumK] using this
    exact ⟨e, by rw [hs]; omega, this⟩
  rcases op_cases hop.1 hop.2 with rfl | rfl | rfl | rfl | rfl | rfl | rfl | rfl | rfl
  · -- a variable
    simp only [fldR, fldT, tabR] at hf
    simp at hf
    have hfm : (fieldR ⟨1, vr, a, b, bw, ws, ks⟩ && manyR ds.length ⟨1, vr, a, b, bw, ws, ks⟩) = decide (0 ≤ vr ∧ vr < (ds.length : Int)) := by
      rw [Bool.eq_iff_iff]
      simp [fieldR, manyR]
      grind
    rw [hfm]
    simp only [nodR, wideR, if_true]
    by_cases hv : 0 ≤ vr ∧ vr < (ds.length : Int)
    · simp only [decide_eq_true hv, if_true, if_pos hv]
      rw [bndR_if]
    · simp only [decide_eq_false hv, if_neg hv]
      simp
  · -- bits
    simp only [fldR, fldT, tabR] at hf
    simp at hf
    have hfm : (fieldR ⟨2, vr, a, b, bw, ws, ks⟩ && manyR ds.length ⟨2, vr, a, b, bw, ws, ks⟩) = rightB bw ws := by
      rw [Bool.eq_iff_iff]
      simp [fieldR, manyR]
      grind
    rw [hfm]
    simp only [nodR, wideR]
    cases hR : rightB bw ws with
    | false => simp
    | true =>
      have : 1 ≤ bw ∧ bw ≤ 4096 := by
        simp [rightB, wOk] at hR
        exact hR.1.1
      simp [this]
  · -- a cat
    simp only [fldR, fldT, tabR] at hf
    simp at hf
    have hfm : (fieldR ⟨3, vr, a, b, bw, ws, ks⟩ && manyR ds.length ⟨3, vr, a, b, bw, ws, ks⟩) = true := by
      simp [fieldR, manyR]
      grind
    rw [hfm]
    simp only [nodR, wideR]
    simp
    rw [bndR_if, hs]
    by_cases h : 1 ≤ sumK (kwR wide ks) ∧ sumK (kwR wide ks) ≤ 4096
    · rw [if_pos h, if_pos (by omega)]
      congr 1
      omega
    · rw [if_neg h, if_neg (by omega)]
  all_goals
    simp only [fldR, fldT, tabR] at hf
    simp at hf
    have h1 : ks.length = 1 := by omega
    obtain ⟨o1, o2, o3, o4⟩ := hone h1
    simp only [nodR, wideR, o1, o2]
    clear hone o1 o2 hs hl hg hk hw
    generalize sumK (kwR wide ks) = q at *
  · have hfm : (fieldR ⟨4, vr, a, b, bw, ws, ks⟩ && manyR ds.length ⟨4, vr, a, b, bw, ws, ks⟩) = true := by
      simp [fieldR, manyR]
      grind
    rw [hfm]
    simp
    by_cases h : b < 0 ∨ a < b ∨ q ≤ a
    · simp [h]
    · rw [if_neg h, if_neg h]
      simp
      omega
  · have hfm : (fieldR ⟨5, vr, a, b, bw, ws, ks⟩ && manyR ds.length ⟨5, vr, a, b, bw, ws, ks⟩) = true := by
      simp [fieldR, manyR]
      grind
    rw [hfm]
    simp
    by_cases h : 0 ≤ a ∧ a ≤ 4096
    · simp only [if_pos h]
      rw [bndR_if]
    · simp only [if_neg h]
      simp
  · have hfm : (fieldR ⟨6, vr, a, b, bw, ws, ks⟩ && manyR ds.length ⟨6, vr, a, b, bw, ws, ks⟩) = true := by
      simp [fieldR, manyR]
      grind
    rw [hfm]
    simp
    by_cases h : 0 ≤ a ∧ a ≤ 4096
    · simp only [if_pos h]
      rw [bndR_if]
    · simp only [if_neg h]
      simp
  · have hfm : (fieldR ⟨7, vr, a, b, bw, ws, ks⟩ && manyR ds.length ⟨7, vr, a, b, bw, ws, ks⟩) = true := by
      simp [fieldR, manyR]
      grind
    rw [hfm]
    simp
    by_cases h : 0 ≤ a ∧ a ≤ 4096
    · simp only [if_pos h]
      simp [o3, o4]
    · simp only [if_neg h]
      simp
  · have hfm : (fieldR ⟨8, vr, a, b, bw, ws, ks⟩ && manyR ds.length ⟨8, vr, a, b, bw, ws, ks⟩) = true := by
      simp [fieldR, manyR]
      grind
    rw [hfm]
    simp
    by_cases h : 0 ≤ a ∧ a ≤ 4096
    · simp only [if_pos h]
      simp [o3, o4]
    · simp only [if_neg h]
      simp
  · have hfm : (fieldR ⟨9, vr, a, b, bw, ws, ks⟩ && manyR ds.length ⟨9, vr, a, b, bw, ws, ks⟩) = true := by
      simp [fieldR, manyR]
      grind
    rw [hfm]
    simp
    by_cases h : 1 ≤ a ∧ a ≤ 4096
    · simp only [if_pos h]
      rw [bndR_if]
    · simp only [if_neg h]
      simp

/-- Fields or kids that are not what the program asks for. -/
theorem step_not {ds : List Dc} {wide : List Int} {n : Tc} (hw : ∀ x ∈ wide, 1 ≤ x ∧ x ≤ 4096) (h : fldR n = false ∨ kidsR wide.length n.ks = false) : stepR ds wide n = none := by
  cases hs : stepR ds wide n with
  | none => rfl
  | some v =>
    obtain ⟨h1, h2⟩ := step_some hw hs
    rcases h with h | h
    · rw [h1] at h; cases h
    · rw [h2] at h; cases h

end Go.Proofs.YtheglnkndjheaaaGreatDoor

/- The program's opOf. -/
namespace Go.Proofs.YtheglnkndjheaaaGreatDoor
set_option linter.unusedVariables false
set_option linter.unusedSimpArgs false
open Go.RowKit

theorem opOf_cat (a : Option Addr) (nd c : Nat) (vr A B bw : Int) (wa ka : Option Addr) (wl wc kl kc : Nat) (w : World) :
    Calls Tryz.prog 109 #[.slice a nd c, .agg #[.int .i64 3, .int .i64 vr, .int .i64 A, .int .i64 B, .int .i64 bw, .slice wa wl wc, .slice ka kl kc]] w fun e w' => e = .returned (.iface 179 (.agg #[])) ∧ Below w.heap.size w w' := by
  have hb0 : Below w.heap.size w (w.alloc (Obj.cells #[Value.int .i64 3, Value.int .i64 vr, Value.int .i64 A, Value.int .i64 B, Value.int .i64 bw, Value.slice wa wl wc, Value.slice ka kl kc] 104)) := (Below.refl _ _).alloc (Nat.le_refl _) _
  have B0 := kide hb0
  clear hb0
  go_enter Tryz.func109, Tryz.ntmps109
  go_wp2_with fail
  go_ret
  exact ⟨rfl, B0.out⟩

theorem opOf_part (a : Option Addr) (nd c : Nat) (vr A B bw : Int) (wa ka : Option Addr) (wl wc kl kc : Nat) (w : World) :
    Calls Tryz.prog 109 #[.slice a nd c, .agg #[.int .i64 4, .int .i64 vr, .int .i64 A, .int .i64 B, .int .i64 bw, .slice wa wl wc, .slice ka kl kc]] w fun e w' => e = .returned (.iface 181 (.agg #[.int .i64 A, .int .i64 B])) ∧ Below w.heap.size w w' := by
  have hb0 : Below w.heap.size w (w.alloc (Obj.cells #[Value.int .i64 4, Value.int .i64 vr, Value.int .i64 A, Value.int .i64 B, Value.int .i64 bw, Value.slice wa wl wc, Value.slice ka kl kc] 104)) := (Below.refl _ _).alloc (Nat.le_refl _) _
  have B0 := kide hb0
  clear hb0
  go_enter Tryz.func109, Tryz.ntmps109
  go_wp2_with fail
  go_ret
  exact ⟨rfl, B0.out⟩

theorem opOf_bits (a : Option Addr) (nd c : Nat) (vr A B bw : Int) (wa ka : Option Addr) (wl wc kl kc : Nat) (w : World) :
    Calls Tryz.prog 109 #[.slice a nd c, .agg #[.int .i64 2, .int .i64 vr, .int .i64 A, .int .i64 B, .int .i64 bw, .slice wa wl wc, .slice ka kl kc]] w fun e w' => e = .returned (.iface 177 (.agg #[.int .i64 bw, .slice wa wl wc])) ∧ Below w.heap.size w w' := by
  have hb0 : Below w.heap.size w (w.alloc (Obj.cells #[Value.int .i64 2, Value.int .i64 vr, Value.int .i64 A, Value.int .i64 B, Value.int .i64 bw, Value.slice wa wl wc, Value.slice ka kl kc] 104)) := (Below.refl _ _).alloc (Nat.le_refl _) _
  have B0 := kide hb0
  clear hb0
  go_enter Tryz.func109, Tryz.ntmps109
  go_wp2_with fail
  go_ret
  exact ⟨rfl, B0.out⟩

theorem opOf_rep (a : Option Addr) (nd c : Nat) (vr A B bw : Int) (wa ka : Option Addr) (wl wc kl kc : Nat) (w : World) :
    Calls Tryz.prog 109 #[.slice a nd c, .agg #[.int .i64 9, .int .i64 vr, .int .i64 A, .int .i64 B, .int .i64 bw, .slice wa wl wc, .slice ka kl kc]] w fun e w' => e = .returned (.iface 187 (.agg #[.int .i64 A])) ∧ Below w.heap.size w w' := by
  have hb0 : Below w.heap.size w (w.alloc (Obj.cells #[Value.int .i64 9, Value.int .i64 vr, Value.int .i64 A, Value.int .i64 B, Value.int .i64 bw, Value.slice wa wl wc, Value.slice ka kl kc] 104)) := (Below.refl _ _).alloc (Nat.le_refl _) _
  have B0 := kide hb0
  clear hb0
  go_enter Tryz.func109, Tryz.ntmps109
  go_wp2_with fail
  go_ret
  exact ⟨rfl, B0.out⟩

theorem opOf_zero (a : Option Addr) (nd c : Nat) (vr A B bw : Int) (wa ka : Option Addr) (wl wc kl kc : Nat) (w : World) (hG : GF w) :
    Calls Tryz.prog 109 #[.slice a nd c, .agg #[.int .i64 5, .int .i64 vr, .int .i64 A, .int .i64 B, .int .i64 bw, .slice wa wl wc, .slice ka kl kc]] w fun e w' => (∃ s, e = .returned (.iface 183 (.agg #[.string s, .int .i64 A]))) ∧ Below w.heap.size w w' := by
  have hb0 : Below w.heap.size w (w.alloc (Obj.cells #[Value.int .i64 5, Value.int .i64 vr, Value.int .i64 A, Value.int .i64 B, Value.int .i64 bw, Value.slice wa wl wc, Value.slice ka kl kc] 104)) := (Below.refl _ _).alloc (Nat.le_refl _) _
  have B0 := kide hb0
  clear hb0
  obtain ⟨⟨s, h0⟩, -⟩ := hG 5 (by omega)
  have l0 : 0 < w.heap.size := block_lt_of_cell h0
  simp only [Nat.reduceMul] at h0
  go_enter Tryz.func109, Tryz.ntmps109
  go_wp2_with fail
  go_quiet (fail)
  go_wp2_with fail
  go_ret
  exact ⟨⟨_, rfl⟩, below_drewN B0.out _⟩

theorem opOf_sign (a : Option Addr) (nd c : Nat) (vr A B bw : Int) (wa ka : Option Addr) (wl wc kl kc : Nat) (w : World) (hG : GF w) :
    Calls Tryz.prog 109 #[.slice a nd c, .agg #[.int .i64 6, .int .i64 vr, .int .i64 A, .int .i64 B, .int .i64 bw, .slice wa wl wc, .slice ka kl kc]] w fun e w' => (∃ s, e = .returned (.iface 183 (.agg #[.string s, .int .i64 A]))) ∧ Below w.heap.size w w' := by
  have hb0 : Below w.heap.size w (w.alloc (Obj.cells #[Value.int .i64 6, Value.int .i64 vr, Value.int .i64 A, Value.int .i64 B, Value.int .i64 bw, Value.slice wa wl wc, Value.slice ka kl kc] 104)) := (Below.refl _ _).alloc (Nat.le_refl _) _
  have B0 := kide hb0
  clear hb0
  obtain ⟨⟨s, h0⟩, -⟩ := hG 6 (by omega)
  have l0 : 0 < w.heap.size := block_lt_of_cell h0
  simp only [Nat.reduceMul] at h0
  go_enter Tryz.func109, Tryz.ntmps109
  go_wp2_with fail
  go_quiet (fail)
  go_wp2_with fail
  go_ret
  exact ⟨⟨_, rfl⟩, below_drewN B0.out _⟩

theorem opOf_left (a : Option Addr) (nd c : Nat) (vr A B bw : Int) (wa ka : Option Addr) (wl wc kl kc : Nat) (w : World) (hG : GF w) :
    Calls Tryz.prog 109 #[.slice a nd c, .agg #[.int .i64 7, .int .i64 vr, .int .i64 A, .int .i64 B, .int .i64 bw, .slice wa wl wc, .slice ka kl kc]] w fun e w' => (∃ s, e = .returned (.iface 185 (.agg #[.string s, .int .i64 A]))) ∧ Below w.heap.size w w' := by
  have hb0 : Below w.heap.size w (w.alloc (Obj.cells #[Value.int .i64 7, Value.int .i64 vr, Value.int .i64 A, Value.int .i64 B, Value.int .i64 bw, Value.slice wa wl wc, Value.slice ka kl kc] 104)) := (Below.refl _ _).alloc (Nat.le_refl _) _
  have B0 := kide hb0
  clear hb0
  obtain ⟨⟨s, h0⟩, -⟩ := hG 7 (by omega)
  have l0 : 0 < w.heap.size := block_lt_of_cell h0
  simp only [Nat.reduceMul] at h0
  go_enter Tryz.func109, Tryz.ntmps109
  go_wp2_with fail
  go_quiet (fail)
  go_wp2_with fail
  go_ret
  exact ⟨⟨_, rfl⟩, below_drewN B0.out _⟩

theorem opOf_right (a : Option Addr) (nd c : Nat) (vr A B bw : Int) (wa ka : Option Addr) (wl wc kl kc : Nat) (w : World) (hG : GF w) :
    Calls Tryz.prog 109 #[.slice a nd c, .agg #[.int .i64 8, .int .i64 vr, .int .i64 A, .int .i64 B, .int .i64 bw, .slice wa wl wc, .slice ka kl kc]] w fun e w' => (∃ s, e = .returned (.iface 185 (.agg #[.string s, .int .i64 A]))) ∧ Below w.heap.size w w' := by
  have hb0 : Below w.heap.size w (w.alloc (Obj.cells #[Value.int .i64 8, Value.int .i64 vr, Value.int .i64 A, Value.int .i64 B, Value.int .i64 bw, Value.slice wa wl wc, Value.slice ka kl kc] 104)) := (Below.refl _ _).alloc (Nat.le_refl _) _
  have B0 := kide hb0
  clear hb0
  obtain ⟨⟨s, h0⟩, -⟩ := hG 8 (by omega)
  have l0 : 0 < w.heap.size := block_lt_of_cell h0
  simp only [Nat.reduceMul] at h0
  go_enter Tryz.func109, Tryz.ntmps109
  go_wp2_with fail
  go_quiet (fail)
  go_wp2_with fail
  go_ret
  exact ⟨⟨_, rfl⟩, below_drewN B0.out _⟩

theorem opOf_off (a : Option Addr) (nd c : Nat) (vr A B bw : Int) (wa ka : Option Addr) (wl wc kl kc : Nat) (w : World) (h : vr < 0 ∨ (nd : Int) ≤ vr) (hn : nd ≤ 1048576) :
    Calls Tryz.prog 109 #[.slice a nd c, .agg #[.int .i64 1, .int .i64 vr, .int .i64 A, .int .i64 B, .int .i64 bw, .slice wa wl wc, .slice ka kl kc]] w fun e w' => e = .returned (.iface 175 (.agg #[.string .empty, .int .i64 0])) ∧ Below w.heap.size w w' := by
  have hb0 : Below w.heap.size w (w.alloc (Obj.cells #[Value.int .i64 1, Value.int .i64 vr, Value.int .i64 A, Value.int .i64 B, Value.int .i64 bw, Value.slice wa wl wc, Value.slice ka kl kc] 104)) := (Below.refl _ _).alloc (Nat.le_refl _) _
  have B0 := kide hb0
  clear hb0
  by_cases hv : vr < 0
  · clear h
    go_enter Tryz.func109, Tryz.ntmps109
    go_wp2_with fail
    go_ret
    exact ⟨rfl, B0.out⟩
  have hv2 : (nd : Int) ≤ vr := by omega
  clear h
  go_enter Tryz.func109, Tryz.ntmps109
  go_wp2_with fail
  go_ret
  exact ⟨rfl, B0.out⟩

theorem opOf_var (a : Option Addr) (nd c : Nat) (vr A B bw : Int) (wa ka : Option Addr) (wl wc kl kc : Nat) (w : World) (b o k : Nat) (s : ByteArray) (x : Int) (ha : a = some ⟨b, o, none⟩) (hv : vr = (k : Int)) (hk : k < nd) (hn : nd ≤ 1048576) (h0 : w.cell? ⟨b, o + k * 2, none⟩ = some (.string s)) (h1 : w.cell? ⟨b, o + k * 2 + 1, none⟩ = some (.int .i64 x)) :
    Calls Tryz.prog 109 #[.slice a nd c, .agg #[.int .i64 1, .int .i64 vr, .int .i64 A, .int .i64 B, .int .i64 bw, .slice wa wl wc, .slice ka kl kc]] w fun e w' => e = .returned (.iface 175 (.agg #[.string s, .int .i64 x])) ∧ Below w.heap.size w w' := by
  have hb0 : Below w.heap.size w (w.alloc (Obj.cells #[Value.int .i64 1, Value.int .i64 vr, Value.int .i64 A, Value.int .i64 B, Value.int .i64 bw, Value.slice wa wl wc, Value.slice ka kl kc] 104)) := (Below.refl _ _).alloc (Nat.le_refl _) _
  have B0 := kide hb0
  clear hb0
  subst ha
  subst hv
  have lb : b < w.heap.size := block_lt_of_cell h0
  have hki : (k : Int) < (nd : Int) := by omega
  go_enter Tryz.func109, Tryz.ntmps109
  go_wp2_with fail
  go_ret
  exact ⟨rfl, B0.out⟩

end Go.Proofs.YtheglnkndjheaaaGreatDoor
