/- Several texts in one. -/
import Derived.Test.YtckidgpopbpagaaGreatDoorZGAP
import Derived.Test.YtckidgpopbpagaaGreatDoorRows
import Derived.ProofKit
import Derived.LaidMore
import Derived.OpenShut
import Derived.Stop.Joined
import Derived.MakeChecks
import Derived.LaidLaws
import Derived.LaidHandle

/- The program's width of each kind of node. -/
namespace Go.Proofs.YtckidgpopbpagaaGreatDoor
set_option linter.unusedVariables false
set_option linter.unusedSimpArgs false
open Go.RowKit

set_option maxHeartbeats 1000000 in
theorem varWidth_any (s : ByteArray) (x : Int) (ky : Option Addr) (kl kc : Nat) (w : World) :
    Calls Tryz.prog 117 #[.agg #[.string s, .int .i64 x], .slice ky kl kc] w fun e w' => e = .returned (.tuple #[.int .i64 (bndR x).1, .int .i64 (bndR x).2]) ∧ Below w.heap.size w w' := by
  have hb0 : Below w.heap.size w (w.alloc (Obj.cells #[Value.string s, Value.int .i64 x] 143)) := (Below.refl _ _).alloc (Nat.le_refl _) _
  have B0 := kide hb0
  clear hb0
  go_enter Tryz.func117, Tryz.ntmps117
  go_wp2_with fail
  refine Calls.mono (boundWidth_any x _) ?_
  rintro e w1 ⟨rfl, rfl⟩
  go_wp2_with fail
  go_returns
  exact ⟨rfl, B0.out⟩

set_option maxHeartbeats 1000000 in
theorem bitsWidth_any (bw : Int) (wa : Option Addr) (wc : Nat) (ws : List Nat) (ky : Option Addr) (kl kc : Nat) (w : World) (hr : Rd w wa ws) :
    Calls Tryz.prog 119 #[.agg #[.int .i64 bw, .slice wa ws.length wc], .slice ky kl kc] w fun e w' => e = .returned (.tuple #[.int .i64 (if rightB bw ws = true then (bw, 0) else ((0 : Int), (15 : Int))).1, .int .i64 (if rightB bw ws = true then (bw, 0) else ((0 : Int), (15 : Int))).2]) ∧ Below w.heap.size w w' := by
  have hb0 : Below w.heap.size w (w.alloc (Obj.cells #[Value.int .i64 bw, Value.slice wa ws.length wc] 145)) := (Below.refl _ _).alloc (Nat.le_refl _) _
  have B0 := kide hb0
  clear hb0
  have HOK := kide (fun u (hu : Below w.heap.size w u) => implOk_any bw wa wc ws u (hr.later hu))
  clear hr
  cases hR : rightB bw ws with
  | false =>
    rw [hR] at HOK
    rw [if_neg (by simp)]
    clear hR
    go_enter Tryz.func119, Tryz.ntmps119
    go_wp2_with fail
    refine Calls.mono (HOK.out _ B0.out) ?_
    rintro e w1 ⟨rfl, hb1⟩
    go_wp2_with fail
    go_returns
    exact ⟨rfl, B0.out.trans (hb1.mono B0.out.size)⟩
  | true =>
    rw [hR] at HOK
    rw [if_pos rfl]
    clear hR
    go_enter Tryz.func119, Tryz.ntmps119
    go_wp2_with fail
    refine Calls.mono (HOK.out _ B0.out) ?_
    rintro e w1 ⟨rfl, hb1⟩
    have k0 := kcell hb1 w.heap.size 0 (by simp)
    simp at k0
    go_wp2_with fail
    go_returns
    exact ⟨rfl, B0.out.trans (hb1.mono B0.out.size)⟩

set_option maxHeartbeats 1000000 in
theorem partWidth_any (A B : Int) (ky : Option Addr) (kl kc : Nat) (w : World) (b o : Nat) (q : Int) (ha : ky = some ⟨b, o, none⟩) (hk : kl = 1) (h0 : w.cell? ⟨b, o, none⟩ = some (.int .i64 q)) (hq1 : 1 ≤ q) (hq2 : q ≤ 4096) :
    Calls Tryz.prog 121 #[.agg #[.int .i64 A, .int .i64 B], .slice ky kl kc] w fun e w' => e = .returned (.tuple #[.int .i64 (if B < 0 ∨ A < B ∨ q ≤ A then ((0 : Int), (15 : Int)) else (A - B + 1, 0)).1, .int .i64 (if B < 0 ∨ A < B ∨ q ≤ A then ((0 : Int), (15 : Int)) else (A - B + 1, 0)).2]) ∧ Below w.heap.size w w' := by
  have hb0 : Below w.heap.size w (w.alloc (Obj.cells #[Value.int .i64 A, Value.int .i64 B] 149)) := (Below.refl _ _).alloc (Nat.le_refl _) _
  have B0 := kide hb0
  clear hb0
  subst ha
  subst hk
  have lb : b < w.heap.size := block_lt_of_cell h0
  by_cases h : B < 0 ∨ A < B ∨ q ≤ A
  · rw [if_pos h]
    by_cases h1 : B < 0
    · clear h
      go_enter Tryz.func121, Tryz.ntmps121
      go_wp2_with fail
      try (go_quiet (fail); go_wp2_with fail)
      try (go_quiet (fail); go_wp2_with fail)
      go_returns
      exact ⟨rfl, by first | exact B0.out | exact below_drewN B0.out _ | exact below_drewN (below_drewN B0.out _) _⟩
    by_cases h2 : A < B
    · clear h
      go_enter Tryz.func121, Tryz.ntmps121
      go_wp2_with fail
      try (go_quiet (fail); go_wp2_with fail)
      try (go_quiet (fail); go_wp2_with fail)
      go_returns
      exact ⟨rfl, by first | exact B0.out | exact below_drewN B0.out _ | exact below_drewN (below_drewN B0.out _) _⟩
    have h3 : q ≤ A := by omega
    clear h
    go_enter Tryz.func121, Tryz.ntmps121
    go_wp2_with fail
    try (go_quiet (fail); go_wp2_with fail)
    try (go_quiet (fail); go_wp2_with fail)
    go_returns
    exact ⟨rfl, by first | exact B0.out | exact below_drewN B0.out _ | exact below_drewN (below_drewN B0.out _) _⟩
  · rw [if_neg h]
    have h1 : 0 ≤ B := by omega
    have h2 : B ≤ A := by omega
    have h3 : A < q := by omega
    clear h
    go_enter Tryz.func121, Tryz.ntmps121
    go_wp2_with fail
    try (go_quiet (fail); go_wp2_with fail)
    try (go_quiet (fail); go_wp2_with fail)
    go_returns
    exact ⟨rfl, by first | exact B0.out | exact below_drewN B0.out _ | exact below_drewN (below_drewN B0.out _) _⟩

set_option maxHeartbeats 1000000 in
theorem widenWidth_any (s : ByteArray) (A : Int) (ky : Option Addr) (kl kc : Nat) (w : World) (b o : Nat) (q : Int) (ha : ky = some ⟨b, o, none⟩) (hk : kl = 1) (h0 : w.cell? ⟨b, o, none⟩ = some (.int .i64 q)) (hq1 : 1 ≤ q) (hq2 : q ≤ 4096) :
    Calls Tryz.prog 122 #[.agg #[.string s, .int .i64 A], .slice ky kl kc] w fun e w' => e = .returned (.tuple #[.int .i64 (if 0 ≤ A ∧ A ≤ 4096 then bndR (q + A) else ((0 : Int), (15 : Int))).1, .int .i64 (if 0 ≤ A ∧ A ≤ 4096 then bndR (q + A) else ((0 : Int), (15 : Int))).2]) ∧ Below w.heap.size w w' := by
  have hb0 : Below w.heap.size w (w.alloc (Obj.cells #[Value.string s, Value.int .i64 A] 151)) := (Below.refl _ _).alloc (Nat.le_refl _) _
  have B0 := kide hb0
  clear hb0
  subst ha
  subst hk
  have lb : b < w.heap.size := block_lt_of_cell h0
  by_cases h : 0 ≤ A ∧ A ≤ 4096
  · rw [if_pos h]
    obtain ⟨h1, h2⟩ := h
    go_enter Tryz.func122, Tryz.ntmps122
    go_wp2_with fail
    go_quiet ((go_at_call 118; exact Calls.quiet_of_same (boundWidth_any _ _)))
    go_wp2_with fail
    go_returns
    exact ⟨rfl, by first | exact B0.out | exact below_drewN B0.out _ | exact below_drewN (below_drewN B0.out _) _⟩
  · rw [if_neg h]
    by_cases h1 : A < 0
    · clear h
      go_enter Tryz.func122, Tryz.ntmps122
      go_wp2_with fail
      try (go_quiet (fail); go_wp2_with fail)
      try (go_quiet (fail); go_wp2_with fail)
      go_returns
      exact ⟨rfl, by first | exact B0.out | exact below_drewN B0.out _ | exact below_drewN (below_drewN B0.out _) _⟩
    have h2 : 4096 < A := by omega
    clear h
    go_enter Tryz.func122, Tryz.ntmps122
    go_wp2_with fail
    try (go_quiet (fail); go_wp2_with fail)
    try (go_quiet (fail); go_wp2_with fail)
    go_returns
    exact ⟨rfl, by first | exact B0.out | exact below_drewN B0.out _ | exact below_drewN (below_drewN B0.out _) _⟩

set_option maxHeartbeats 1000000 in
theorem turnWidth_any (s : ByteArray) (A : Int) (ky : Option Addr) (kl kc : Nat) (w : World) (b o : Nat) (q : Int) (ha : ky = some ⟨b, o, none⟩) (hk : kl = 1) (h0 : w.cell? ⟨b, o, none⟩ = some (.int .i64 q)) (hq1 : 1 ≤ q) (hq2 : q ≤ 4096) :
    Calls Tryz.prog 123 #[.agg #[.string s, .int .i64 A], .slice ky kl kc] w fun e w' => e = .returned (.tuple #[.int .i64 (if 0 ≤ A ∧ A ≤ 4096 then (q, 0) else ((0 : Int), (15 : Int))).1, .int .i64 (if 0 ≤ A ∧ A ≤ 4096 then (q, 0) else ((0 : Int), (15 : Int))).2]) ∧ Below w.heap.size w w' := by
  have hb0 : Below w.heap.size w (w.alloc (Obj.cells #[Value.string s, Value.int .i64 A] 153)) := (Below.refl _ _).alloc (Nat.le_refl _) _
  have B0 := kide hb0
  clear hb0
  subst ha
  subst hk
  have lb : b < w.heap.size := block_lt_of_cell h0
  by_cases h : 0 ≤ A ∧ A ≤ 4096
  · rw [if_pos h]
    obtain ⟨h1, h2⟩ := h
    go_enter Tryz.func123, Tryz.ntmps123
    go_wp2_with fail
    try (go_quiet (fail); go_wp2_with fail)
    try (go_quiet (fail); go_wp2_with fail)
    go_returns
    exact ⟨rfl, by first | exact B0.out | exact below_drewN B0.out _ | exact below_drewN (below_drewN B0.out _) _⟩
  · rw [if_neg h]
    by_cases h1 : A < 0
    · clear h
      go_enter Tryz.func123, Tryz.ntmps123
      go_wp2_with fail
      try (go_quiet (fail); go_wp2_with fail)
      try (go_quiet (fail); go_wp2_with fail)
      go_returns
      exact ⟨rfl, by first | exact B0.out | exact below_drewN B0.out _ | exact below_drewN (below_drewN B0.out _) _⟩
    have h2 : 4096 < A := by omega
    clear h
    go_enter Tryz.func123, Tryz.ntmps123
    go_wp2_with fail
    try (go_quiet (fail); go_wp2_with fail)
    try (go_quiet (fail); go_wp2_with fail)
    go_returns
    exact ⟨rfl, by first | exact B0.out | exact below_drewN B0.out _ | exact below_drewN (below_drewN B0.out _) _⟩

set_option maxHeartbeats 1000000 in
theorem repWidth_any (A : Int) (ky : Option Addr) (kl kc : Nat) (w : World) (b o : Nat) (q : Int) (ha : ky = some ⟨b, o, none⟩) (hk : kl = 1) (h0 : w.cell? ⟨b, o, none⟩ = some (.int .i64 q)) (hq1 : 1 ≤ q) (hq2 : q ≤ 4096) :
    Calls Tryz.prog 124 #[.agg #[.int .i64 A], .slice ky kl kc] w fun e w' => e = .returned (.tuple #[.int .i64 (if 1 ≤ A ∧ A ≤ 4096 then bndR (q * A) else ((0 : Int), (15 : Int))).1, .int .i64 (if 1 ≤ A ∧ A ≤ 4096 then bndR (q * A) else ((0 : Int), (15 : Int))).2]) ∧ Below w.heap.size w w' := by
  have hb0 : Below w.heap.size w (w.alloc (Obj.cells #[Value.int .i64 A] 155)) := (Below.refl _ _).alloc (Nat.le_refl _) _
  have B0 := kide hb0
  clear hb0
  subst ha
  subst hk
  have lb : b < w.heap.size := block_lt_of_cell h0
  by_cases h : 1 ≤ A ∧ A ≤ 4096
  · rw [if_pos h]
    obtain ⟨h1, h2⟩ := h
    have hqa : 0 ≤ q * A ∧ q * A ≤ 16777216 := ⟨Int.mul_nonneg (by omega) (by omega), by have := Int.mul_le_mul hq2 h2 (by omega) (by omega); omega⟩
    obtain ⟨hqa1, hqa2⟩ := hqa
    go_enter Tryz.func124, Tryz.ntmps124
    go_wp2_with fail
    go_quiet ((go_at_call 118; exact Calls.quiet_of_same (boundWidth_any _ _)))
    go_wp2_with fail
    go_returns
    exact ⟨rfl, by first | exact B0.out | exact below_drewN B0.out _ | exact below_drewN (below_drewN B0.out _) _⟩
  · rw [if_neg h]
    by_cases h1 : A < 1
    · clear h
      go_enter Tryz.func124, Tryz.ntmps124
      go_wp2_with fail
      try (go_quiet (fail); go_wp2_with fail)
      try (go_quiet (fail); go_wp2_with fail)
      go_returns
      exact ⟨rfl, by first | exact B0.out | exact below_drewN B0.out _ | exact below_drewN (below_drewN B0.out _) _⟩
    have h2 : 4096 < A := by omega
    clear h
    go_enter Tryz.func124, Tryz.ntmps124
    go_wp2_with fail
    try (go_quiet (fail); go_wp2_with fail)
    try (go_quiet (fail); go_wp2_with fail)
    go_returns
    exact ⟨rfl, by first | exact B0.out | exact below_drewN B0.out _ | exact below_drewN (below_drewN B0.out _) _⟩

theorem sumK_append (xs ys : List Int) : sumK (xs ++ ys) = sumK xs + sumK ys := by
  induction xs with
  | nil => simp [sumK]
  | cons x t ih => simp [sumK, ih]; omega
theorem sumK_take {xs : List Int} {k : Nat} (h : k < xs.length) : sumK (xs.take (k + 1)) = sumK (xs.take k) + xs.getD k 0 := by
  rw [List.take_add_one, sumK_append]
  simp [sumK, List.getD, h]
theorem sumK_le {xs : List Int} (h : ∀ x ∈ xs, 1 ≤ x ∧ x ≤ 4096) : 0 ≤ sumK xs ∧ sumK xs ≤ 4096 * xs.length := by
  induction xs with
  | nil => simp [sumK]
  | cons x t ih =>
    have h1 := h x (by simp)
    have h2 := ih (fun y hy => h y (by simp [hy]))
    simp only [sumK, List.length_cons]
    omega

set_option maxHeartbeats 1000000 in
theorem catWidth_any (ky : Option Addr) (n kc : Nat) (ys : List Int) (w : World) (hr : RdI w ky ys) (hn : ys.length = n) (hb : ∀ x ∈ ys, 1 ≤ x ∧ x ≤ 4096) (hl : n ≤ 4096) :
    Calls Tryz.prog 120 #[.agg #[], .slice ky n kc] w fun e w' => e = .returned (.tuple #[.int .i64 (bndR (sumK ys)).1, .int .i64 (bndR (sumK ys)).2]) ∧ Below w.heap.size w w' := by
  subst hn
  have hb0 : Below w.heap.size w (w.alloc (Obj.cells #[] 147)) := (Below.refl _ _).alloc (Nat.le_refl _) _
  have HR := kide (fun u (hu : Below w.heap.size w u) => hr.later hu)
  have HY := kide hb
  clear hr hb
  go_enter Tryz.func120, Tryz.ntmps120
  go_wp2_with fail
  go_loopw [6, 11] (fun q i wr => ∃ k : Nat, k ≤ ys.length ∧ i = .int .i64 k ∧ q = .int .i64 (sumK (ys.take k)) ∧ Below w.heap.size w wr) (fun _ i _ => ys.length - (intOf i).toNat)
  case atStart => exact ⟨0, Nat.zero_le _, rfl, by simp [sumK], by first | exact hb0 | exact Below.refl _ _⟩
  case round =>
    obtain ⟨k, hk, rfl, rfl, hbel⟩ := hrel
    have HB := kide hbel
    by_cases hlt : k < ys.length
    · obtain ⟨-, -, h | ⟨b, o, rfl, hc⟩⟩ := HR.out wr hbel
      · subst h; simp at hlt
      have p0 := hc k hlt
      have hki : (k : Int) < (ys.length : Int) := by omega
      have hst := sumK_take hlt
      have hx := HY.out _ (List.getElem_mem hlt)
      have hxe : ys.getD k 0 = ys[k] := by simp [List.getD, hlt]
      rw [← hxe] at hx
      have hle := sumK_le (xs := ys.take k) (fun x hx => HY.out x (List.mem_of_mem_take hx))
      have htl : (ys.take k).length ≤ 4096 := by simp; omega
      generalize ys.getD k 0 = x at *
      generalize sumK (ys.take k) = Q at *
      generalize (ys.take k).length = L at *
      obtain ⟨hx1, hx2⟩ := hx
      obtain ⟨hle1, hle2⟩ := hle
      have hQ : Q ≤ 16777216 := by omega
      have HST := kide hst
      clear hc hst hxe hbel hb0 hle2 htl
      go_wp2_with fail
      go_roundw
      case rel => exact ⟨k + 1, by omega, by go_num, by rw [HST.out], HB.out⟩
      case measure => simp [intOf]; omega
    · have e : k = ys.length := by omega
      rw [e, List.take_length]
      clear hbel hb0 hlt
      go_wp2_with fail
      refine Calls.mono (boundWidth_any (sumK ys) _) ?_
      rintro e w1 ⟨rfl, rfl⟩
      go_wp2_with fail
      go_returns
      exact ⟨rfl, HB.out⟩

end Go.Proofs.YtckidgpopbpagaaGreatDoor

/- The program's width of a node. -/
namespace Go.Proofs.YtckidgpopbpagaaGreatDoor
set_option linter.unusedVariables false
set_option linter.unusedSimpArgs false
open Go.RowKit

theorem kwR_len (wide ks : List Int) : (kwR wide ks).length = ks.length := by simp [kwR]
theorem kwR_get {wide ks : List Int} {k : Nat} (h : k < ks.length) : (kwR wide ks).getD k 0 = wide.getD (ks.getD k 0).toNat 0 := by simp [kwR, List.getD, h]

set_option maxHeartbeats 4000000 in
set_option maxRecDepth 100000 in
theorem nodeWidth_any (a : Option Addr) (c : Nat) (ds : List Dc) (n : Tc) (wa ka ya : Option Addr) (wc kc yc : Nat) (wide : List Int) (w : World) (hr : RdD w a ds) (hw : Rd w wa n.ws) (hk : RdI w ka n.ks) (hy : RdI w ya wide) (hG : GF w)
    (hwd : ∀ x ∈ wide, 1 ≤ x ∧ x ≤ 4096) (hkr : kidsR wide.length n.ks = true) (hf : fldR n = true) :
    Calls Tryz.prog 61 #[.slice a ds.length c, .agg #[.int .i64 n.op, .int .i64 n.vr, .int .i64 n.a, .int .i64 n.b, .int .i64 n.bw, .slice wa n.ws.length wc, .slice ka n.ks.length kc], .slice ya wide.length yc] w fun e w' => e = .returned (.tuple #[.int .i64 (nodR ds n (kwR wide n.ks)).1, .int .i64 (nodR ds n (kwR wide n.ks)).2]) ∧ Below w.heap.size w w' := by
  have hop := fldR_op hf
  have hl1 := hr.1
  have hl2 := hk.1
  have hl3 := hy.1
  have hlw := hw.1
  have hkb := kids_get hwd hkr
  have HKB : Hid (∀ y ∈ kwR wide n.ks, 1 ≤ y ∧ y ≤ 4096) := fun y hy' => by
    obtain ⟨k, hk', rfl⟩ := List.mem_map.1 hy'
    exact hkb k hk'
  have HKI : Hid (∀ k, k < n.ks.length → 0 ≤ n.ks.getD k 0 ∧ n.ks.getD k 0 < (wide.length : Int)) := fun k hk' => by
    simp only [kidsR, List.all_eq_true, decide_eq_true_eq] at hkr
    have := hkr _ (List.getElem_mem hk')
    simp [List.getD, hk']
    omega
  have HRD := kide (fun u (hu : Below w.heap.size w u) => hr.later hu)
  have HRW := kide (fun u (hu : Below w.heap.size w u) => hw.later hu)
  have HRK := kide (fun u (hu : Below w.heap.size w u) => hk.later hu)
  have HRY := kide (fun u (hu : Below w.heap.size w u) => hy.later hu)
  have HG := kide (fun u (hu : Below w.heap.size w u) => hG.later hu)
  have HF := kide hf
  generalize hV : nodR ds n (kwR wide n.ks) = V
  have HV := kide hV
  clear hV
  have hmk := fun kl kc w => run_make_row' (P := Tryz.prog) 55 2 (.int .i64 0) 8 Tryz.underlying55 Tryz.infoI64 rfl kl kc n.ks.length (by omega) (by omega) w
  obtain ⟨op, vr, A, B, bw, ws, ks⟩ := n
  simp only [] at hmk HKB HKI HRW HRK HF HV hop hl2 hlw ⊢
  clear hr hw hk hy hG hkr hf hkb
  obtain ⟨wl, hwl⟩ : ∃ m, ws.length = m := ⟨_, rfl⟩
  rw [hwl] at hlw ⊢
  have HWL := kide hwl
  clear hwl
  obtain ⟨kl, hkl⟩ : ∃ m, ks.length = m := ⟨_, rfl⟩
  rw [hkl] at hl2 hmk HKI ⊢
  have HKL := kide hkl
  clear hkl
  have s0 := St.start w (Obj.cells #[Value.int .i64 op, Value.int .i64 vr, Value.int .i64 A, Value.int .i64 B, Value.int .i64 bw, Value.slice wa wl wc, Value.slice ka kl kc] 62)
  go_enter Tryz.func61, Tryz.ntmps61
  go_wp2_with fail
  go_loopw [18] (fun i wr => ∃ k : Nat, k ≤ kl ∧ i = .int .i64 k ∧ OwnI wr (w.heap.size + 1) ((kwR wide ks).take k ++ List.replicate (kl - k) 0) ∧ St w (Obj.cells #[Value.int .i64 op, Value.int .i64 vr, Value.int .i64 A, Value.int .i64 B, Value.int .i64 bw, Value.slice wa wl wc, Value.slice ka kl kc] 62) wr) (fun i _ => kl - (intOf i).toNat)
  case atStart =>
    refine ⟨0, Nat.zero_le _, rfl, ?_, ?_⟩
    · unfold OwnI
      have := heap_alloc_new (w.alloc (Obj.cells #[Value.int .i64 op, Value.int .i64 vr, Value.int .i64 A, Value.int .i64 B, Value.int .i64 bw, Value.slice wa wl wc, Value.slice ka kl kc] 62)) (.cells (madeCells #[Value.int .i64 0] kl) 2)
      simp only [World.size_alloc] at this
      rw [this, i64s_made]
      rfl
    · exact s0.next ((Below.refl _ _).alloc (Nat.le_refl _) _)
  case round =>
    obtain ⟨k, hk, rfl, hown, s1⟩ := hrel
    by_cases hlt : k < kl
    · obtain ⟨-, -, h | ⟨b, o, rfl, hc⟩⟩ := HRK.out wr s1.below
      · have := HKL.out; subst h; simp at this; omega
      have hkk := HKI.out k hlt
      have hp0 := hc k (by rw [HKL.out]; exact hlt)
      obtain ⟨j, hj, hjl⟩ : ∃ j : Nat, ks.getD k 0 = (j : Int) ∧ j < wide.length := ⟨(ks.getD k 0).toNat, by omega, by omega⟩
      rw [hj] at hp0
      obtain ⟨-, -, h | ⟨b2, o2, rfl, hc2⟩⟩ := HRY.out wr s1.below
      · subst h; simp at hjl
      have q0 := hc2 j hjl
      have hget : (kwR wide ks).getD k 0 = wide.getD j 0 := by
        rw [kwR_get (by rw [HKL.out]; exact hlt), hj, Int.toNat_natCast]
      have HT := kide (take_setI (kwR wide ks) k (by rw [kwR_len, HKL.out]; exact hlt))
      rw [kwR_len, HKL.out, hget] at HT
      have hcg := hown.cell (i := k) (by simp [kwR_len, HKL.out]; omega)
      have hfg := hown.free k
      generalize wide.getD j 0 = y at *
      have HO := kide (hown.put k y)
      generalize ((kwR wide ks).take k ++ List.replicate (kl - k) 0).getD k 0 = z at hcg
      have hki : (k : Int) < (kl : Int) := by omega
      have hji : (j : Int) < (wide.length : Int) := by omega
      clear hc hc2 hown hmk s0 hget hj hkk
      go_wp2_with fail
      go_roundw
      case rel =>
        have h := HO.out
        rw [HT.out] at h
        exact ⟨k + 1, by omega, by go_num, h, Below.setCell s1 (Nat.le_refl _) _⟩
      case measure => simp [intOf]; omega
    · have e : k = kl := by omega
      rw [e] at hown
      have HO : Hid (OwnI wr (w.heap.size + 1) (kwR wide ks)) := by
        have h := hown
        rw [List.take_of_length_le (by rw [kwR_len, HKL.out]; omega)] at h
        show OwnI _ _ _
        simpa using h
      have g0 := s1.cell 0
      have g1 := s1.cell 1
      have g2 := s1.cell 2
      have g3 := s1.cell 3
      have g4 := s1.cell 4
      have g5 := s1.cell 5
      have g6 := s1.cell 6
      simp at g0 g1 g2 g3 g4 g5 g6
      clear hown s0 hmk hlt hk
      obtain e := e.symm
      subst e
      rcases op_cases hop.1 hop.2 with rfl | rfl | rfl | rfl | rfl | rfl | rfl | rfl | rfl
      · by_cases hv : 0 ≤ vr ∧ vr < (ds.length : Int)
        · obtain ⟨k, rfl, hk⟩ : ∃ k : Nat, vr = (k : Int) ∧ k < ds.length := ⟨vr.toNat, by omega, by omega⟩
          obtain ⟨-, -, h | ⟨b, o, rfl, hc⟩⟩ := HRD.out wr s1.below
          · subst h; simp at hk
          obtain ⟨⟨s', x⟩, hd⟩ : ∃ d, ds[k]? = some d := ⟨_, List.getElem?_eq_getElem hk⟩
          obtain ⟨c0, c1⟩ := hc k _ hd
          simp only [] at c0 c1
          have hP : bndR x = V := by
            have hde : ds.getD k (.empty, 0) = (s', x) := by rw [List.getD_eq_getElem?_getD, hd]; rfl
            rw [← HV.out]
            simp only [nodR, if_true, if_pos hv, Int.toNat_natCast, hde]
          have HOP := kide (opOf_var (some ⟨b, o, none⟩) ds.length c (k : Int) A B bw wa ka wl wc kl kc wr b o k s' x rfl rfl hk hl1 c0 c1)
          clear hc hd c0 c1 hv
          go_wp2_with fail
          refine Calls.mono HOP.out ?_
          rintro e w2 ⟨rfl, hb2⟩
          have s2 := s1.next hb2
          clear hb2 g0 g1 g2 g3 g4 g5 g6
          have HM := kide (varWidth_any s' x (some ⟨w.heap.size + 1, 0, none⟩) kl kl w2)
          rw [hP] at HM
          clear hP
          go_wp2_with fail
          refine Calls.mono HM.out ?_
          rintro e w3 ⟨rfl, hb3⟩
          go_wp2_with fail
          go_returns
          exact ⟨rfl, s2.below.trans (hb3.mono s2.below.size)⟩
        · have hP : bndR 0 = V := by
            rw [← HV.out]
            simp [nodR, hv]
            simp [bndR]
          have HOP := kide (opOf_off a ds.length c vr A B bw wa ka wl wc kl kc wr (by omega) hl1)
          clear hv
          go_wp2_with fail
          refine Calls.mono HOP.out ?_
          rintro e w2 ⟨rfl, hb2⟩
          have s2 := s1.next hb2
          clear hb2 g0 g1 g2 g3 g4 g5 g6
          have HM := kide (varWidth_any .empty 0 (some ⟨w.heap.size + 1, 0, none⟩) kl kl w2)
          rw [hP] at HM
          clear hP
          go_wp2_with fail
          refine Calls.mono HM.out ?_
          rintro e w3 ⟨rfl, hb3⟩
          go_wp2_with fail
          go_returns
          exact ⟨rfl, s2.below.trans (hb3.mono s2.below.size)⟩
      · go_wp2_with fail
        refine Calls.mono (opOf_bits a ds.length c vr A B bw wa ka wl wc kl kc wr) ?_
        rintro e w2 ⟨rfl, hb2⟩
        have s2 := s1.next hb2
        clear hb2 g0 g1 g2 g3 g4 g5 g6
        have hP : (if rightB bw ws = true then (bw, 0) else ((0 : Int), (15 : Int))) = V := by rw [← HV.out]; simp [nodR]
        have HM := kide (bitsWidth_any bw wa wc ws (some ⟨w.heap.size + 1, 0, none⟩) kl kl w2 (HRW.out w2 s2.below))
        rw [HWL.out] at HM
        rw [hP] at HM
        clear hP
        go_wp2_with fail
        refine Calls.mono HM.out ?_
        rintro e w3 ⟨rfl, hb3⟩
        go_wp2_with fail
        go_returns
        exact ⟨rfl, s2.below.trans (hb3.mono s2.below.size)⟩
      · have hk1 : kl ≤ 4096 := by
          have h := HF.out
          simp only [fldR, fldT, tabR] at h
          simp [HKL.out] at h
          omega
        have HOL := kide HO.out.lt
        go_wp2_with fail
        refine Calls.mono (opOf_cat a ds.length c vr A B bw wa ka wl wc kl kc wr) ?_
        rintro e w2 ⟨rfl, hb2⟩
        have s2 := s1.next hb2
        have HO2 := kide (HO.out.later hb2 HOL.out)
        clear hb2 g0 g1 g2 g3 g4 g5 g6
        have hP : bndR (sumK (kwR wide ks)) = V := by rw [← HV.out]; simp [nodR]
        have HM := kide (catWidth_any (some ⟨w.heap.size + 1, 0, none⟩) kl kl (kwR wide ks) w2 (HO2.out.rd (by rw [kwR_len, HKL.out]; omega) (fun y hy => by have := HKB.out y hy; unfold in64; omega)) (by rw [kwR_len, HKL.out]) HKB.out hk1)
        rw [hP] at HM
        clear hP
        go_wp2_with fail
        refine Calls.mono HM.out ?_
        rintro e w3 ⟨rfl, hb3⟩
        go_wp2_with fail
        go_returns
        exact ⟨rfl, s2.below.trans (hb3.mono s2.below.size)⟩
      · have hk1 : kl = 1 := by
          have h := HF.out
          simp only [fldR, fldT, tabR] at h
          simp [HKL.out] at h
          omega
        obtain ⟨q, hq⟩ : ∃ q, kwR wide ks = [q] := by
          have h := kwR_len wide ks
          rw [HKL.out, hk1] at h
          match hkw : kwR wide ks, h with
          | [q], _ => exact ⟨q, rfl⟩
        have hq0 := HKB.out q (by rw [hq]; simp)
        obtain ⟨hq1, hq2⟩ := hq0
        rw [hq] at HO HV
        have HOL := kide HO.out.lt
        subst hk1
        clear hop HKB HKI hq
        go_wp2_with fail
        refine Calls.mono (opOf_part a ds.length c vr A B bw wa ka wl wc 1 kc wr) ?_
        rintro e w2 ⟨rfl, hb2⟩
        have s2 := s1.next hb2
        have HO2 := kide (HO.out.later hb2 HOL.out)
        clear hb2 g0 g1 g2 g3 g4 g5 g6
        have r0 := HO2.out.cell (i := 0) (by simp)
        simp at r0
        have hP : (if B < 0 ∨ A < B ∨ q ≤ A then ((0 : Int), (15 : Int)) else (A - B + 1, 0)) = V := by rw [← HV.out]; simp [nodR]
        have HM := kide (partWidth_any A B (some ⟨w.heap.size + 1, 0, none⟩) 1 1 w2 (w.heap.size + 1) 0 q rfl rfl r0 hq1 hq2)
        rw [hP] at HM
        clear hP
        go_wp2_with fail
        refine Calls.mono HM.out ?_
        rintro e w3 ⟨rfl, hb3⟩
        go_wp2_with fail
        go_returns
        exact ⟨rfl, s2.below.trans (hb3.mono s2.below.size)⟩
      · have hk1 : kl = 1 := by
          have h := HF.out
          simp only [fldR, fldT, tabR] at h
          simp [HKL.out] at h
          omega
        obtain ⟨q, hq⟩ : ∃ q, kwR wide ks = [q] := by
          have h := kwR_len wide ks
          rw [HKL.out, hk1] at h
          match hkw : kwR wide ks, h with
          | [q], _ => exact ⟨q, rfl⟩
        have hq0 := HKB.out q (by rw [hq]; simp)
        obtain ⟨hq1, hq2⟩ := hq0
        rw [hq] at HO HV
        have HOL := kide HO.out.lt
        subst hk1
        clear hop HKB HKI hq
        go_wp2_with fail
        refine Calls.mono (opOf_zero a ds.length c vr A B bw wa ka wl wc 1 kc wr (HG.out wr s1.below)) ?_
        rintro e w2 ⟨⟨s', rfl⟩, hb2⟩
        have s2 := s1.next hb2
        have HO2 := kide (HO.out.later hb2 HOL.out)
        clear hb2 g0 g1 g2 g3 g4 g5 g6
        have r0 := HO2.out.cell (i := 0) (by simp)
        simp at r0
        have hP : (if 0 ≤ A ∧ A ≤ 4096 then bndR (q + A) else ((0 : Int), (15 : Int))) = V := by rw [← HV.out]; simp [nodR]
        have HM := kide (widenWidth_any s' A (some ⟨w.heap.size + 1, 0, none⟩) 1 1 w2 (w.heap.size + 1) 0 q rfl rfl r0 hq1 hq2)
        rw [hP] at HM
        clear hP
        go_wp2_with fail
        refine Calls.mono HM.out ?_
        rintro e w3 ⟨rfl, hb3⟩
        go_wp2_with fail
        go_returns
        exact ⟨rfl, s2.below.trans (hb3.mono s2.below.size)⟩
      · have hk1 : kl = 1 := by
          have h := HF.out
          simp only [fldR, fldT, tabR] at h
          simp [HKL.out] at h
          omega
        obtain ⟨q, hq⟩ : ∃ q, kwR wide ks = [q] := by
          have h := kwR_len wide ks
          rw [HKL.out, hk1] at h
          match hkw : kwR wide ks, h with
          | [q], _ => exact ⟨q, rfl⟩
        have hq0 := HKB.out q (by rw [hq]; simp)
        obtain ⟨hq1, hq2⟩ := hq0
        rw [hq] at HO HV
        have HOL := kide HO.out.lt
        subst hk1
        clear hop HKB HKI hq
        go_wp2_with fail
        refine Calls.mono (opOf_sign a ds.length c vr A B bw wa ka wl wc 1 kc wr (HG.out wr s1.below)) ?_
        rintro e w2 ⟨⟨s', rfl⟩, hb2⟩
        have s2 := s1.next hb2
        have HO2 := kide (HO.out.later hb2 HOL.out)
        clear hb2 g0 g1 g2 g3 g4 g5 g6
        have r0 := HO2.out.cell (i := 0) (by simp)
        simp at r0
        have hP : (if 0 ≤ A ∧ A ≤ 4096 then bndR (q + A) else ((0 : Int), (15 : Int))) = V := by rw [← HV.out]; simp [nodR]
        have HM := kide (widenWidth_any s' A (some ⟨w.heap.size + 1, 0, none⟩) 1 1 w2 (w.heap.size + 1) 0 q rfl rfl r0 hq1 hq2)
        rw [hP] at HM
        clear hP
        go_wp2_with fail
        refine Calls.mono HM.out ?_
        rintro e w3 ⟨rfl, hb3⟩
        go_wp2_with fail
        go_returns
        exact ⟨rfl, s2.below.trans (hb3.mono s2.below.size)⟩
      · have hk1 : kl = 1 := by
          have h := HF.out
          simp only [fldR, fldT, tabR] at h
          simp [HKL.out] at h
          omega
        obtain ⟨q, hq⟩ : ∃ q, kwR wide ks = [q] := by
          have h := kwR_len wide ks
          rw [HKL.out, hk1] at h
          match hkw : kwR wide ks, h with
          | [q], _ => exact ⟨q, rfl⟩
        have hq0 := HKB.out q (by rw [hq]; simp)
        obtain ⟨hq1, hq2⟩ := hq0
        rw [hq] at HO HV
        have HOL := kide HO.out.lt
        subst hk1
        clear hop HKB HKI hq
        go_wp2_with fail
        refine Calls.mono (opOf_left a ds.length c vr A B bw wa ka wl wc 1 kc wr (HG.out wr s1.below)) ?_
        rintro e w2 ⟨⟨s', rfl⟩, hb2⟩
        have s2 := s1.next hb2
        have HO2 := kide (HO.out.later hb2 HOL.out)
        clear hb2 g0 g1 g2 g3 g4 g5 g6
        have r0 := HO2.out.cell (i := 0) (by simp)
        simp at r0
        have hP : (if 0 ≤ A ∧ A ≤ 4096 then (q, 0) else ((0 : Int), (15 : Int))) = V := by rw [← HV.out]; simp [nodR]
        have HM := kide (turnWidth_any s' A (some ⟨w.heap.size + 1, 0, none⟩) 1 1 w2 (w.heap.size + 1) 0 q rfl rfl r0 hq1 hq2)
        rw [hP] at HM
        clear hP
        go_wp2_with fail
        refine Calls.mono HM.out ?_
        rintro e w3 ⟨rfl, hb3⟩
        go_wp2_with fail
        go_returns
        exact ⟨rfl, s2.below.trans (hb3.mono s2.below.size)⟩
      · have hk1 : kl = 1 := by
          have h := HF.out
          simp only [fldR, fldT, tabR] at h
          simp [HKL.out] at h
          omega
        obtain ⟨q, hq⟩ : ∃ q, kwR wide ks = [q] := by
          have h := kwR_len wide ks
          rw [HKL.out, hk1] at h
          match hkw : kwR wide ks, h with
          | [q], _ => exact ⟨q, rfl⟩
        have hq0 := HKB.out q (by rw [hq]; simp)
        obtain ⟨hq1, hq2⟩ := hq0
        rw [hq] at HO HV
        have HOL := kide HO.out.lt
        subst hk1
        clear hop HKB HKI hq
        go_wp2_with fail
        refine Calls.mono (opOf_right a ds.length c vr A B bw wa ka wl wc 1 kc wr (HG.out wr s1.below)) ?_
        rintro e w2 ⟨⟨s', rfl⟩, hb2⟩
        have s2 := s1.next hb2
        have HO2 := kide (HO.out.later hb2 HOL.out)
        clear hb2 g0 g1 g2 g3 g4 g5 g6
        have r0 := HO2.out.cell (i := 0) (by simp)
        simp at r0
        have hP : (if 0 ≤ A ∧ A ≤ 4096 then (q, 0) else ((0 : Int), (15 : Int))) = V := by rw [← HV.out]; simp [nodR]
        have HM := kide (turnWidth_any s' A (some ⟨w.heap.size + 1, 0, none⟩) 1 1 w2 (w.heap.size + 1) 0 q rfl rfl r0 hq1 hq2)
        rw [hP] at HM
        clear hP
        go_wp2_with fail
        refine Calls.mono HM.out ?_
        rintro e w3 ⟨rfl, hb3⟩
        go_wp2_with fail
        go_returns
        exact ⟨rfl, s2.below.trans (hb3.mono s2.below.size)⟩
      · have hk1 : kl = 1 := by
          have h := HF.out
          simp only [fldR, fldT, tabR] at h
          simp [HKL.out] at h
          omega
        obtain ⟨q, hq⟩ : ∃ q, kwR wide ks = [q] := by
          have h := kwR_len wide ks
          rw [HKL.out, hk1] at h
          match hkw : kwR wide ks, h with
          | [q], _ => exact ⟨q, rfl⟩
        have hq0 := HKB.out q (by rw [hq]; simp)
        obtain ⟨hq1, hq2⟩ := hq0
        rw [hq] at HO HV
        have HOL := kide HO.out.lt
        subst hk1
        clear hop HKB HKI hq
        go_wp2_with fail
        refine Calls.mono (opOf_rep a ds.length c vr A B bw wa ka wl wc 1 kc wr) ?_
        rintro e w2 ⟨rfl, hb2⟩
        have s2 := s1.next hb2
        have HO2 := kide (HO.out.later hb2 HOL.out)
        clear hb2 g0 g1 g2 g3 g4 g5 g6
        have r0 := HO2.out.cell (i := 0) (by simp)
        simp at r0
        have hP : (if 1 ≤ A ∧ A ≤ 4096 then bndR (q * A) else ((0 : Int), (15 : Int))) = V := by rw [← HV.out]; simp [nodR]
        have HM := kide (repWidth_any A (some ⟨w.heap.size + 1, 0, none⟩) 1 1 w2 (w.heap.size + 1) 0 q rfl rfl r0 hq1 hq2)
        rw [hP] at HM
        clear hP
        go_wp2_with fail
        refine Calls.mono HM.out ?_
        rintro e w3 ⟨rfl, hb3⟩
        go_wp2_with fail
        go_returns
        exact ⟨rfl, s2.below.trans (hb3.mono s2.below.size)⟩

end Go.Proofs.YtckidgpopbpagaaGreatDoor

/- How often each node is a kid; slices.Contains over a row of counts. -/
namespace Go.Proofs.YtckidgpopbpagaaGreatDoor
set_option linter.unusedVariables false
set_option linter.unusedSimpArgs false
open Go.RowKit

theorem countKids_nil (P k cp kc : Nat) (ka : Option Addr) (w : World) :
    Calls Tryz.prog 60 #[.slice (some ⟨P, 0, none⟩) k cp, .slice ka 0 kc] w fun e w' => e = .returned (.bool true) ∧ w' = w := by
  go_enter Tryz.func60, Tryz.ntmps60
  go_wp2_with fail
  go_loopw [9] (fun i wr => i = .int .i64 0 ∧ wr = w) (fun _ _ => 0)
  case atStart => exact ⟨rfl, rfl⟩
  case round =>
    obtain ⟨rfl, rfl⟩ := hrel
    go_wp2_with fail
    go_ret
    exact ⟨rfl, rfl⟩

/-- How often a place stands among the kids of all nodes. -/
def cntA : List Tc → Nat → Nat
  | [], _ => 0
  | n :: t, j => cntR n.ks j + cntA t j

theorem cntA_append (xs ys : List Tc) (j : Nat) : cntA (xs ++ ys) j = cntA xs j + cntA ys j := by
  induction xs with
  | nil => simp [cntA]
  | cons x t ih => simp [cntA, ih]; omega
theorem cntA_take {ns : List Tc} {k : Nat} {n : Tc} (h : ns[k]? = some n) (j : Nat) : cntA (ns.take (k + 1)) j = cntA (ns.take k) j + cntR n.ks j := by
  rw [List.take_add_one, h, cntA_append]
  simp [cntA]
theorem cntA_le {ns : List Tc} (h : ∀ n ∈ ns, n.ks.length ≤ 1048576) (j : Nat) : cntA ns j ≤ 1048576 * ns.length := by
  induction ns with
  | nil => simp [cntA]
  | cons n t ih =>
    have h1 := h n (by simp)
    have h2 := ih (fun y hy => h y (by simp [hy]))
    have h3 : cntR n.ks j ≤ n.ks.length := List.countP_le_length
    simp only [cntA, List.length_cons]
    omega
theorem cntA_used (ns : List Tc) (j : Nat) : (cntA ns j = 0) ↔ usedR ns j = false := by
  induction ns with
  | nil => simp [cntA, usedR]
  | cons n t ih =>
    simp only [usedR, List.any_cons, Bool.or_eq_false_iff] at ih ⊢
    simp only [cntA]
    have h1 : cntR n.ks j = 0 ↔ (n.ks.any fun k => decide (k = (j : Int))) = false := by
      simp [cntR, List.countP_eq_zero]
    exact ⟨fun h => ⟨h1.1 (by omega), ih.1 (by omega)⟩, fun h => by have e1 := h1.2 h.1; have e2 := ih.2 h.2; omega⟩

/-- Is a count 0 among the first m? -/
def zeroR (q : Nat → Nat) (m : Nat) : Bool := (List.range m).any fun j => decide (q j = 0)

theorem zeroR_used (ns : List Tc) (m : Nat) : zeroR (cntA ns) m = !((List.range m).all (usedR ns)) := by
  rw [Bool.eq_iff_iff]
  simp only [zeroR, List.any_eq_true, Bool.not_eq_true', List.all_eq_false, decide_eq_true_eq]
  constructor
  · rintro ⟨j, hj, h⟩
    exact ⟨j, hj, by rw [(cntA_used ns j).1 h]; simp⟩
  · rintro ⟨j, hj, h⟩
    exact ⟨j, hj, (cntA_used ns j).2 (by simpa using h)⟩

theorem index_any (P N m cp : Nat) (q : Nat → Nat) (w : World) (hc : Cn w P N q) (hm : m ≤ N) (hN : N ≤ 1048576) :
    Calls Tryz.prog 84 #[.slice (some ⟨P, 0, none⟩) m cp, .int .i64 0] w fun e w' => (∃ r : Int, e = .returned (.int .i64 r) ∧ (decide (0 ≤ r) = zeroR q m)) ∧ Below w.heap.size w w' := by
  generalize hZ : zeroR q m = Z
  have HZ := kide hZ
  have HC := kide hc
  clear hZ hc
  go_enter Tryz.func84, Tryz.ntmps84
  go_wp2_with fail
  go_loopw [8] (fun i wr => ∃ k : Nat, k ≤ m ∧ i = .int .i64 k ∧ (∀ j, j < k → q j ≠ 0) ∧ Below w.heap.size w wr) (fun i _ => m - (intOf i).toNat)
  case atStart => exact ⟨0, Nat.zero_le _, rfl, fun j h => by omega, Below.refl _ _⟩
  case round =>
    obtain ⟨k, hk, rfl, hno, hbel⟩ := hrel
    have HB := kide hbel
    have HNO := kide hno
    by_cases hlt : k < m
    · obtain ⟨f, hrw, hfq⟩ := HC.out.later hbel
      have q0 := hrw.cell (i := k) (by omega)
      rw [hfq k (by omega)] at q0
      have hki : (k : Int) < (m : Int) := by omega
      clear hrw hfq hno hbel
      by_cases h0 : q k = 0
      · rw [h0] at q0
        have HT : Hid (Z = true) := by
          show _ = _
          rw [← HZ.out]
          simp only [zeroR, List.any_eq_true, decide_eq_true_eq]
          exact ⟨k, List.mem_range.2 hlt, h0⟩
        clear h0
        go_wp2_with fail
        go_ret
        exact ⟨⟨k, rfl, by rw [HT.out]; simp⟩, HB.out⟩
      · have hne : ((0 : Int) == ((q k : Nat) : Int)) = false := by simp; omega
        have H0 := kide h0
        clear h0
        obtain ⟨y, hy⟩ : ∃ y, q k = y := ⟨_, rfl⟩
        rw [hy] at q0 hne
        have HYY := kide hy
        clear hy
        go_wp2_with fail
        go_roundw
        case rel =>
          refine ⟨k + 1, by omega, by go_num, fun j hj => ?_, HB.out⟩
          by_cases hjk : j < k
          · exact HNO.out j hjk
          · have : j = k := by omega
            subst this
            exact H0.out
        case measure => simp [intOf]; omega
    · have HT : Hid (Z = false) := by
        show _ = _
        rw [← HZ.out, Bool.eq_false_iff]
        simp only [zeroR, ne_eq, List.any_eq_true, decide_eq_true_eq]
        rintro ⟨j, hj, h⟩
        exact HNO.out j (by have := List.mem_range.1 hj; omega) h
      clear hno hbel
      go_wp2_with fail
      go_ret
      exact ⟨⟨-1, rfl, by rw [HT.out]; rfl⟩, HB.out⟩

theorem contains_any (P N m cp : Nat) (q : Nat → Nat) (w : World) (hc : Cn w P N q) (hm : m ≤ N) (hN : N ≤ 1048576) :
    Calls Tryz.prog 62 #[.slice (some ⟨P, 0, none⟩) m cp, .int .i64 0] w fun e w' => e = .returned (.bool (zeroR q m)) ∧ Below w.heap.size w w' := by
  have HI := kide (index_any P N m cp q w hc hm hN)
  clear hc
  go_enter Tryz.func62, Tryz.ntmps62
  go_wp2_with fail
  refine Calls.mono HI.out ?_
  rintro e w1 ⟨⟨r, rfl, hr⟩, hb1⟩
  have HR := kide hr
  clear hr
  go_wp2_with fail
  go_ret
  exact ⟨ret_bool HR.out, hb1⟩

end Go.Proofs.YtckidgpopbpagaaGreatDoor

/- From what the listed variable reads as to the cells of its block. -/
namespace Go.Proofs.YtckidgpopbpagaaGreatDoor
set_option linter.unusedVariables false
set_option linter.unusedSimpArgs false
open Go.ChangeShapes Go.WideShapes Go.ChangeAt Go.RowKit

theorem gForms : Tryz.prog.globalNamed "loop.example/g00081/impl.forms" = some 0 := by kernel_rfl
theorem tForms : (Tryz.prog.globals[0]?).map (·.type) = some 127 := by kernel_rfl

theorem forms_at (m : Nat) (hm : m < 10) : ∃ s : List UInt8, (match (Rows.laid_loop_example_g00081_impl_forms : DataW Unit) with | .agg l => l | _ => [])[m]? = some (.agg [.lit (.string s), .lit (.int .i64 (tabR m).1), .lit (.int .i64 (tabR m).2.1), .lit (.int .i64 (tabR m).2.2)]) := by
  match m, hm with
  | 0, _ => exact ⟨_, rfl⟩
  | 1, _ => exact ⟨_, rfl⟩
  | 2, _ => exact ⟨_, rfl⟩
  | 3, _ => exact ⟨_, rfl⟩
  | 4, _ => exact ⟨_, rfl⟩
  | 5, _ => exact ⟨_, rfl⟩
  | 6, _ => exact ⟨_, rfl⟩
  | 7, _ => exact ⟨_, rfl⟩
  | 8, _ => exact ⟨_, rfl⟩
  | 9, _ => exact ⟨_, rfl⟩

set_option maxRecDepth 100000 in
theorem gf_of_laid {W : World} (h : laidMetH Tryz.prog [("loop.example/g00081/impl.forms", Rows.laid_loop_example_g00081_impl_forms)] W) : GF W := by
  rw [MakeChecks.laidMetH_plain _ _ _ (by kernel_rfl)] at h
  obtain ⟨ps, ⟨g0, t0, cs0, f0, p0, q0, hg0, ht0, hv0, hd0, _, _⟩, _, _⟩ := h
  obtain rfl := Option.some.inj (gForms.symm.trans hg0)
  obtain rfl := Option.some.inj (tForms.symm.trans ht0)
  obtain ⟨xs, m1, rfl, hx1, hlen, hn, hel⟩ := DataW.trod_array Tryz.underlying127 hd0
  have cF : Tryz.prog.cellsOf 126 = 4 := by kernel_rfl
  have cS : Tryz.prog.cellsOf 9 = 1 := by kernel_rfl
  have cI : Tryz.prog.cellsOf 3 = 1 := by kernel_rfl
  have cA : Tryz.prog.cellsOf 127 = 40 := by kernel_rfl
  rw [cA] at hlen
  have hcell := fun i => World.var?_cell hg0 hv0 i
  intro m hm
  have h0 := hel m hm
  rw [cF] at h0
  obtain ⟨s, hs⟩ := forms_at m hm
  have hxm : (xs.map (·.1))[m]? = some (.agg [.lit (.string s), .lit (.int .i64 (tabR m).1), .lit (.int .i64 (tabR m).2.1), .lit (.int .i64 (tabR m).2.2)]) := by
    simp only [Prod.mk.injEq] at hx1
    have := hx1.1
    rw [this] at hs
    simpa using hs
  rw [List.getElem?_map] at hxm
  cases hx : xs[m]? with
  | none => rw [hx] at hxm; cases hxm
  | some y =>
    rw [hx] at hxm h0
    have hy : y.1 = .agg [.lit (.string s), .lit (.int .i64 (tabR m).1), .lit (.int .i64 (tabR m).2.1), .lit (.int .i64 (tabR m).2.2)] := by simpa using hxm
    obtain ⟨ys, k, hk, hxy, hl4, hyl, hfd⟩ := DataW.trod_struct Tryz.underlying126 h0
    rw [cF] at hl4
    have g0 := hfd 0 _ rfl
    have g1 := hfd 1 _ rfl
    have g2 := hfd 2 _ rfl
    have g3 := hfd 3 _ rfl
    match ys, hyl with
    | [y0, y1, y2, y3], _ =>
      rw [hxy] at hy
      simp only [DataW.agg.injEq, List.map_cons, List.map_nil, List.cons.injEq] at hy
      obtain ⟨a0, a1, a2, a3, -⟩ := hy
      obtain ⟨s', e0, f0, _⟩ := DataW.trod_string Tryz.underlying9 g0
      obtain ⟨n1, e1, f1, _⟩ := DataW.trod_int Tryz.underlying3 g1
      obtain ⟨n2, e2, f2, _⟩ := DataW.trod_int Tryz.underlying3 g2
      obtain ⟨n3, e3, f3, _⟩ := DataW.trod_int Tryz.underlying3 g3
      rw [f0] at a0
      rw [f1] at a1
      rw [f2] at a2
      rw [f3] at a3
      simp at a1 a2 a3
      have gl : ∀ i, i < 4 → cs0[m * 4 + i]? = ((cs0.toList.drop (m * 4)).take 4)[i]? := fun i hi => by
        rw [List.getElem?_take_of_lt hi, List.getElem?_drop]
        simp
      generalize (cs0.toList.drop (m * 4)).take 4 = L at *
      match L, hl4 with
      | [l0, l1, l2, l3], _ =>
        simp [cS, cI] at e0 e1 e2 e3
        have q0 := (hcell (m * 4 + 0)).trans (gl 0 (by omega))
        have q1 := (hcell (m * 4 + 1)).trans (gl 1 (by omega))
        have q2 := (hcell (m * 4 + 2)).trans (gl 2 (by omega))
        have q3 := (hcell (m * 4 + 3)).trans (gl 3 (by omega))
        simp at q0 q1 q2 q3
        refine ⟨⟨s', ?_⟩, ?_, ?_, ?_⟩
        · rw [q0, e0]
        · rw [q1, e1, a1]
        · rw [q2, e2, a2]
        · rw [q3, e3, a3]

end Go.Proofs.YtckidgpopbpagaaGreatDoor
