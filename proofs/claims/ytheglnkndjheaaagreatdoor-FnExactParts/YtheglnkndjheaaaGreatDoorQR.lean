/- The program's width of each kind of node. -/
import Derived.Test.YtheglnkndjheaaaGreatDoorZQL
namespace Go.Proofs.YtheglnkndjheaaaGreatDoor
set_option linter.unusedVariables false
set_option linter.unusedSimpArgs false
open Go.RowKit

set_option maxHeartbeats 1000000 in
theorem varWidth_any (s : ByteArray) (x : Int) (ky : Option Addr) (kl kc : Nat) (w : World) :
    Calls Tryz.prog 140 #[.agg #[.string s, .int .i64 x], .slice ky kl kc] w fun e w' => e = .returned (.tuple #[.int .i64 (bndR x).1, .int .i64 (bndR x).2]) ∧ Below w.heap.size w w' := by
  have hb0 : Below w.heap.size w (w.alloc (Obj.cells #[Value.string s, Value.int .i64 x] 175)) := (Below.refl _ _).alloc (Nat.le_refl _) _
  have B0 := kide hb0
  clear hb0
  go_enter Tryz.func140, Tryz.ntmps140
  go_wp2_with fail
  refine Calls.mono (boundWidth_any x _) ?_
  rintro e w1 ⟨rfl, rfl⟩
  go_wp2_with fail
  go_returns
  exact ⟨rfl, B0.out⟩

set_option maxHeartbeats 1000000 in
theorem bitsWidth_any (bw : Int) (wa : Option Addr) (wc : Nat) (ws : List Nat) (ky : Option Addr) (kl kc : Nat) (w : World) (hr : Rd w wa ws) :
    Calls Tryz.prog 142 #[.agg #[.int .i64 bw, .slice wa ws.length wc], .slice ky kl kc] w fun e w' => e = .returned (.tuple #[.int .i64 (if rightB bw ws = true then (bw, 0) else ((0 : Int), (15 : Int))).1, .int .i64 (if rightB bw ws = true then (bw, 0) else ((0 : Int), (15 : Int))).2]) ∧ Below w.heap.size w w' := by
  have hb0 : Below w.heap.size w (w.alloc (Obj.cells #[Value.int .i64 bw, Value.slice wa ws.length wc] 177)) := (Below.refl _ _).alloc (Nat.le_refl _) _
  have B0 := kide hb0
  clear hb0
  have HOK := kide (fun u (hu : Below w.heap.size w u) => implOk_any bw wa wc ws u (hr.later hu))
  clear hr
  cases hR : rightB bw ws with
  | false =>
    rw [hR] at HOK
    rw [if_neg (by simp)]
    clear hR
    go_enter Tryz.func142, Tryz.ntmps142
    go_wp2_with fail
    refine Calls.mono (HOK.out _ B0.out) ?_
    rintro e w1 ⟨rfl, hb1⟩
    go_wp2_with fail
    go_returns
    exact ⟨rfl, B0.out.trans (hb1.mono B0.out.size)⟩
  | true =>
    rw [hR] at HOK
    rw [if_pos rfl]
    clear hR
    go_enter Tryz.func142, Tryz.ntmps142
    go_wp2_with fail
    refine Calls.mono (HOK.out _ B0.out) ?_
    rintro e w1 ⟨rfl, hb1⟩
    have k0 := kcell hb1 w.heap.size 0 (by simp)
    simp at k0
    go_wp2_with fail
    go_returns
    exact ⟨rfl, B0.out.trans (hb1.mono B0.out.size)⟩

set_option maxHeartbeats 1000000 in
theorem partWidth_any (A B : Int) (ky : Option Addr) (kl kc : Nat) (w : World) (b o : Nat) (q : Int) (ha : ky = some ⟨b, o, none⟩) (hk : kl = 1) (h0 : w.cell? ⟨b, o, none⟩ = some (.int .i64 q)) (hq1 : 1 ≤ q) (hq2 : q ≤ 4096) :
    Calls Tryz.prog 146 #[.agg #[.int .i64 A, .int .i64 B], .slice ky kl kc] w fun e w' => e = .returned (.tuple #[.int .i64 (if B < 0 ∨ A < B ∨ q ≤ A then ((0 : Int), (15 : Int)) else (A - B + 1, 0)).1, .int .i64 (if B < 0 ∨ A < B ∨ q ≤ A then ((0 : Int), (15 : Int)) else (A - B + 1, 0)).2]) ∧ Below w.heap.size w w' := by
  have hb0 : Below w.heap.size w (w.alloc (Obj.cells #[Value.int .i64 A, Value.int .i64 B] 181)) := (Below.refl _ _).alloc (Nat.le_refl _) _
  have B0 := kide hb0
  clear hb0
  subst ha
  subst hk
  have lb : b < w.heap.size := block_lt_of_cell h0
  by_cases h : B < 0 ∨ A < B ∨ q ≤ A
  · rw [if_pos h]
    by_cases h1 : B < 0
    · clear h
      go_enter Tryz.func146, Tryz.ntmps146
      go_wp2_with fail
      try (go_quiet (fail); go_wp2_with fail)
      try (go_quiet (fail); go_wp2_with fail)
      go_returns
      exact ⟨rfl, by first | exact B0.out | exact below_drewN B0.out _ | exact below_drewN (below_drewN B0.out _) _⟩
    by_cases h2 : A < B
    · clear h
      go_enter Tryz.func146, Tryz.ntmps146
      go_wp2_with fail
      try (go_quiet (fail); go_wp2_with fail)
      try (go_quiet (fail); go_wp2_with fail)
      go_returns
      exact ⟨rfl, by first | exact B0.out | exact below_drewN B0.out _ | exact below_drewN (below_drewN B0.out _) _⟩
    have h3 : q ≤ A := by omega
    clear h
    go_enter Tryz.func146, Tryz.ntmps146
    go_wp2_with fail
    try (go_quiet (fail); go_wp2_with fail)
    try (go_quiet (fail); go_wp2_with fail)
    go_returns
    exact ⟨rfl, by first | exact B0.out | exact below_drewN B0.out _ | exact below_drewN (below_drewN B0.out _) _⟩
  · rw [if_neg h]
    have h1 : 0 ≤ B := by omega
    have h2 : B ≤ A := by omega
    have h3 : A < q := by omega
    clear h
    go_enter Tryz.func146, Tryz.ntmps146
    go_wp2_with fail
    try (go_quiet (fail); go_wp2_with fail)
    try (go_quiet (fail); go_wp2_with fail)
    go_returns
    exact ⟨rfl, by first | exact B0.out | exact below_drewN B0.out _ | exact below_drewN (below_drewN B0.out _) _⟩

set_option maxHeartbeats 1000000 in
theorem widenWidth_any (s : ByteArray) (A : Int) (ky : Option Addr) (kl kc : Nat) (w : World) (b o : Nat) (q : Int) (ha : ky = some ⟨b, o, none⟩) (hk : kl = 1) (h0 : w.cell? ⟨b, o, none⟩ = some (.int .i64 q)) (hq1 : 1 ≤ q) (hq2 : q ≤ 4096) :
    Calls Tryz.prog 147 #[.agg #[.string s, .int .i64 A], .slice ky kl kc] w fun e w' => e = .returned (.tuple #[.int .i64 (if 0 ≤ A ∧ A ≤ 4096 then bndR (q + A) else ((0 : Int), (15 : Int))).1, .int .i64 (if 0 ≤ A ∧ A ≤ 4096 then bndR (q + A) else ((0 : Int), (15 : Int))).2]) ∧ Below w.heap.size w w' := by
  have hb0 : Below w.heap.size w (w.alloc (Obj.cells #[Value.string s, Value.int .i64 A] 183)) := (Below.refl _ _).alloc (Nat.le_refl _) _
  have B0 := kide hb0
  clear hb0
  subst ha
  subst hk
  have lb : b < w.heap.size := block_lt_of_cell h0
  by_cases h : 0 ≤ A ∧ A ≤ 4096
  · rw [if_pos h]
    obtain ⟨h1, h2⟩ := h
    go_enter Tryz.func147, Tryz.ntmps147
    go_wp2_with fail
    go_quiet ((go_at_call 141; exact Calls.quiet_of_same (boundWidth_any _ _)))
    go_wp2_with fail
    go_returns
    exact ⟨rfl, by first | exact B0.out | exact below_drewN B0.out _ | exact below_drewN (below_drewN B0.out _) _⟩
  · rw [if_neg h]
    by_cases h1 : A < 0
    · clear h
      go_enter Tryz.func147, Tryz.ntmps147
      go_wp2_with fail
      try (go_quiet (fail); go_wp2_with fail)
      try (go_quiet (fail); go_wp2_with fail)
      go_returns
      exact ⟨rfl, by first | exact B0.out | exact below_drewN B0.out _ | exact below_drewN (below_drewN B0.out _) _⟩
    have h2 : 4096 < A := by omega
    clear h
    go_enter Tryz.func147, Tryz.ntmps147
    go_wp2_with fail
    try (go_quiet (fail); go_wp2_with fail)
    try (go_quiet (fail); go_wp2_with fail)
    go_returns
    exact ⟨rfl, by first | exact B0.out | exact below_drewN B0.out _ | exact below_drewN (below_drewN B0.out _) _⟩

set_option maxHeartbeats 1000000 in
theorem turnWidth_any (s : ByteArray) (A : Int) (ky : Option Addr) (kl kc : Nat) (w : World) (b o : Nat) (q : Int) (ha : ky = some ⟨b, o, none⟩) (hk : kl = 1) (h0 : w.cell? ⟨b, o, none⟩ = some (.int .i64 q)) (hq1 : 1 ≤ q) (hq2 : q ≤ 4096) :
    Calls Tryz.prog 148 #[.agg #[.string s, .int .i64 A], .slice ky kl kc] w fun e w' => e = .returned (.tuple #[.int .i64 (if 0 ≤ A ∧ A ≤ 4096 then (q, 0) else ((0 : Int), (15 : Int))).1, .int .i64 (if 0 ≤ A ∧ A ≤ 4096 then (q, 0) else ((0 : Int), (15 : Int))).2]) ∧ Below w.heap.size w w' := by
  have hb0 : Below w.heap.size w (w.alloc (Obj.cells #[Value.string s, Value.int .i64 A] 185)) := (Below.refl _ _).alloc (Nat.le_refl _) _
  have B0 := kide hb0
  clear hb0
  subst ha
  subst hk
  have lb : b < w.heap.size := block_lt_of_cell h0
  by_cases h : 0 ≤ A ∧ A ≤ 4096
  · rw [if_pos h]
    obtain ⟨h1, h2⟩ := h
    go_enter Tryz.func148, Tryz.ntmps148
    go_wp2_with fail
    try (go_quiet (fail); go_wp2_with fail)
    try (go_quiet (fail); go_wp2_with fail)
    go_returns
    exact ⟨rfl, by first | exact B0.out | exact below_drewN B0.out _ | exact below_drewN (below_drewN B0.out _) _⟩
  · rw [if_neg h]
    by_cases h1 : A < 0
    · clear h
      go_enter Tryz.func148, Tryz.ntmps148
      go_wp2_with fail
      try (go_quiet (fail); go_wp2_with fail)
      try (go_quiet (fail); go_wp2_with fail)
      go_returns
      exact ⟨rfl, by first | exact B0.out | exact below_drewN B0.out _ | exact below_drewN (below_drewN B0.out _) _⟩
    have h2 : 4096 < A := by omega
    clear h
    go_enter Tryz.func148, Tryz.ntmps148
    go_wp2_with fail
    try (go_quiet (fail); go_wp2_with fail)
    try (go_quiet (fail); go_wp2_with fail)
    go_returns
    exact ⟨rfl, by first | exact B0.out | exact below_drewN B0.out _ | exact below_drewN (below_drewN B0.out _) _⟩

set_option maxHeartbeats 1000000 in
theorem repWidth_any (A : Int) (ky : Option Addr) (kl kc : Nat) (w : World) (b o : Nat) (q : Int) (ha : ky = some ⟨b, o, none⟩) (hk : kl = 1) (h0 : w.cell? ⟨b, o, none⟩ = some (.int .i64 q)) (hq1 : 1 ≤ q) (hq2 : q ≤ 4096) :
    Calls Tryz.prog 149 #[.agg #[.int .i64 A], .slice ky kl kc] w fun e w' => e = .returned (.tuple #[.int .i64 (if 1 ≤ A ∧ A ≤ 4096 then bndR (q * A) else ((0 : Int), (15 : Int))).1, .int .i64 (if 1 ≤ A ∧ A ≤ 4096 then bndR (q * A) else ((0 : Int), (15 : Int))).2]) ∧ Below w.heap.size w w' := by
  have hb0 : Below w.heap.size w (w.alloc (Obj.cells #[Value.int .i64 A] 187)) := (Below.refl _ _).alloc (Nat.le_refl _) _
  have B0 := kide hb0
  clear hb0
  subst ha
  subst hk
  have lb : b < w.heap.size := block_lt_of_cell h0
  by_cases h : 1 ≤ A ∧ A ≤ 4096
  · rw [if_pos h]
    obtain ⟨h1, h2⟩ := h
    have hqa : 0 ≤ q * A ∧ q * A ≤ 16777216 := ⟨Int.mul_nonneg (by omega) (by omega), by have := Int.mul_le_mul hq2 h2 (by omega) (by omega); omega⟩
    obtain ⟨hqa1, hqa2⟩ := hqa
    go_enter Tryz.func149, Tryz.ntmps149
    go_wp2_with fail
    go_quiet ((go_at_call 141; exact Calls.quiet_of_same (boundWidth_any _ _)))
    go_wp2_with fail
    go_returns
    exact ⟨rfl, by first | exact B0.out | exact below_drewN B0.out _ | exact below_drewN (below_drewN B0.out _) _⟩
  · rw [if_neg h]
    by_cases h1 : A < 1
    · clear h
      go_enter Tryz.func149, Tryz.ntmps149
      go_wp2_with fail
      try (go_quiet (fail); go_wp2_with fail)
      try (go_quiet (fail); go_wp2_with fail)
      go_returns
      exact ⟨rfl, by first | exact B0.out | exact below_drewN B0.out _ | exact below_drewN (below_drewN B0.out _) _⟩
    have h2 : 4096 < A := by omega
    clear h
    go_enter Tryz.func149, Tryz.ntmps149
    go_wp2_with fail
    try (go_quiet (fail); go_wp2_with fail)
    try (go_quiet (fail); go_wp2_with fail)
    go_returns
    exact ⟨rfl, by first | exact B0.out | exact below_drewN B0.out _ | exact below_drewN (below_drewN B0.out _) _⟩

theorem sumK_append (xs ys : List Int) : sumK (xs ++ ys) = sumK xs + sumK ys := by
  induction xs with
  | nil => simp [sumK]
  | cons x t ih => simp [sumK, ih]; omega
theorem sumK_take {xs : List Int} {k : Nat} (h : k < xs.length) : sumK (xs.take (k + 1)) = sumK (xs.take k) + xs.getD k 0 := by
  rw [List.take_add_one, sumK_append]
  simp [sumK, List.getD, h]
theorem sumK_le {xs : List Int} (h : ∀ x ∈ xs, 1 ≤ x ∧ x ≤ 4096) : 0 ≤ sumK xs ∧ sumK xs ≤ 4096 * xs.length := by
  induction xs with
  | nil => simp [sumK]
  | cons x t ih =>
    have h1 := h x (by simp)
    have h2 := ih (fun y hy => h y (by simp [hy]))
    simp only [sumK, List.length_cons]
    omega

set_option maxHeartbeats 1000000 in
theorem catWidth_any (ky : Option Addr) (n kc : Nat) (ys : List Int) (w : World) (hr : RdI w ky ys) (hn : ys.length = n) (hb : ∀ x ∈ ys, 1 ≤ x ∧ x ≤ 4096) (hl : n ≤ 4096) :
    Calls Tryz.prog 145 #[.agg #[], .slice ky n kc] w fun e w' => e = .returned (.tuple #[.int .i64 (bndR (sumK ys)).1, .int .i64 (bndR (sumK ys)).2]) ∧ Below w.heap.size w w' := by
  subst hn
  have hb0 : Below w.heap.size w (w.alloc (Obj.cells #[] 179)) := (Below.refl _ _).alloc (Nat.le_refl _) _
  have HR := kide (fun u (hu : Below w.heap.size w u) => hr.later hu)
  have HY := kide hb
  clear hr hb
  go_enter Tryz.func145, Tryz.ntmps145
  go_wp2_with fail
  go_loopw [6, 11] (fun q i wr => ∃ k : Nat, k ≤ ys.length ∧ i = .int .i64 k ∧ q = .int .i64 (sumK (ys.take k)) ∧ Below w.heap.size w wr) (fun _ i _ => ys.length - (intOf i).toNat)
  case atStart => exact ⟨0, Nat.zero_le _, rfl, by simp [sumK], by first | exact hb0 | exact Below.refl _ _⟩
  case round =>
    obtain ⟨k, hk, rfl, rfl, hbel⟩ := hrel
    have HB := kide hbel
    by_cases hlt : k < ys.length
    · obtain ⟨-, -, h | ⟨b, o, rfl, hc⟩⟩ := HR.out wr hbel
      · subst h; simp at hlt
      have p0 := hc k hlt
      have hki : (k : Int) < (ys.length : Int) := by omega
      have hst := sumK_take hlt
      have hx := HY.out _ (List.getElem_mem hlt)
      have hxe : ys.getD k 0 = ys[k] := by simp [List.getD, hlt]
      rw [← hxe] at hx
      have hle := sumK_le (xs := ys.take k) (fun x hx => HY.out x (List.mem_of_mem_take hx))
      have htl : (ys.take k).length ≤ 4096 := by simp; omega
      generalize ys.getD k 0 = x at *
      generalize sumK (ys.take k) = Q at *
      generalize (ys.take k).length = L at *
      obtain ⟨hx1, hx2⟩ := hx
      obtain ⟨hle1, hle2⟩ := hle
      have hQ : Q ≤ 16777216 := by omega
      have HST := kide hst
      clear hc hst hxe hbel hb0 hle2 htl
      go_wp2_with fail
      go_roundw
      case rel => exact ⟨k + 1, by omega, by go_num, by rw [HST.out], HB.out⟩
      case measure => simp [intOf]; omega
    · have e : k = ys.length := by omega
      rw [e, List.take_length]
      clear hbel hb0 hlt
      go_wp2_with fail
      refine Calls.mono (boundWidth_any (sumK ys) _) ?_
      rintro e w1 ⟨rfl, rfl⟩
      go_wp2_with fail
      go_returns
      exact ⟨rfl, HB.out⟩

end Go.Proofs.YtheglnkndjheaaaGreatDoor
