/- The given l3Wide: the width of a node by those of its kids. -/
import Derived.Test.YteenmffhbgpahaaDoorQE
namespace Go.Proofs.YteenmffhbgpahaaDoor
set_option linter.unusedVariables false
set_option linter.unusedSimpArgs false
open Go.RowKit

/-- The sum of the kids' widths, cut at 8192. -/
def sumR (wide : List Int) : List Int → Int → Int
  | [], s => s
  | k :: t, s => sumR wide t (min 8192 (s + wide.getD k.toNat 0))

/-- The width of a node; -1: its bounds are not kept. -/
def wideR (ds : List Dc) (n : Tc) (s : Int) : Int :=
  if n.op = 1 then (ds.getD n.vr.toNat (.empty, 0)).2
  else if n.op = 2 then n.bw
  else if n.op = 4 then (if n.b < 0 ∨ n.a < n.b ∨ s ≤ n.a then -1 else n.a - n.b + 1)
  else if n.op = 5 ∨ n.op = 6 then (if 0 ≤ n.a ∧ n.a ≤ 4096 then s + n.a else -1)
  else if n.op = 7 ∨ n.op = 8 then (if 0 ≤ n.a ∧ n.a ≤ 4096 then s else -1)
  else if n.op = 9 then (if 1 ≤ n.a ∧ n.a ≤ 4096 then s * n.a else -1)
  else s

theorem sumR_range (wide : List Int) (ks : List Int) (s : Int) (hw : ∀ x ∈ wide, 1 ≤ x ∧ x ≤ 4096) (h0 : 0 ≤ s) (h1 : s ≤ 8192) : 0 ≤ sumR wide ks s ∧ sumR wide ks s ≤ 8192 := by
  induction ks generalizing s with
  | nil => exact ⟨h0, h1⟩
  | cons k t ih =>
    rw [sumR]
    have hx : 0 ≤ wide.getD k.toNat 0 := by
      rw [List.getD]
      cases h : wide[k.toNat]? with
      | none => simp
      | some x => have := hw x (List.mem_of_getElem? h); simp; omega
    exact ih _ (by omega) (by omega)

set_option maxHeartbeats 1000000 in
theorem l3Wide_any (a : Option Addr) (c : Nat) (ds : List Dc) (n : Tc) (wa ka ya : Option Addr) (wc kc yc : Nat) (wide : List Int) (w : World) (hr : RdD w a ds) (hw : Rd w wa n.ws) (hk : RdI w ka n.ks) (hy : RdI w ya wide)
    (hwd : ∀ x ∈ wide, 1 ≤ x ∧ x ≤ 4096) (hkr : kidsR wide.length n.ks = true) (hv : n.op = 1 → 0 ≤ n.vr ∧ n.vr ≤ (ds.length : Int) - 1) (hA : in64 n.a) (hB : in64 n.b) :
    Calls Tryd.prog 45 #[.slice a ds.length c, .agg #[.int .i64 n.op, .int .i64 n.vr, .int .i64 n.a, .int .i64 n.b, .int .i64 n.bw, .slice wa n.ws.length wc, .slice ka n.ks.length kc], .slice ya wide.length yc] w fun e w' => e = .returned (.int .i64 (wideR ds n (sumR wide n.ks 0))) ∧ Below w.heap.size w w' := by
  obtain ⟨op, vr, A, B, bw, ws, ks⟩ := n
  simp only [] at hw hk hkr hv hA hB ⊢
  generalize hZ : wideR ds ⟨op, vr, A, B, bw, ws, ks⟩ (sumR wide ks 0) = Z
  have HZ := kide hZ
  clear hZ
  have hb0 : Below w.heap.size w (w.alloc (Obj.cells #[Value.int .i64 op, Value.int .i64 vr, Value.int .i64 A, Value.int .i64 B, Value.int .i64 bw, Value.slice wa ws.length wc, Value.slice ka ks.length kc] 54)) := (Below.refl _ _).alloc (Nat.le_refl _) _
  have HK := kide (hk.later hb0)
  have HY := kide (hy.later hb0)
  have HR := kide (hr.later hb0)
  have hl := hk.1
  have hl2 := hy.1
  have hl3 := hr.1
  have B0 := kide hb0
  have HKR := kide hkr
  have HV := kide hv
  have HWD := kide hwd
  clear hw hk hb0 hr hy hkr hv hwd
  go_enter Tryd.func45, Tryd.ntmps45
  go_wp2_with fail
  have c0 : (w.alloc (Obj.cells #[Value.int .i64 op, Value.int .i64 vr, Value.int .i64 A, Value.int .i64 B, Value.int .i64 bw, Value.slice wa ws.length wc, Value.slice ka ks.length kc] 54)).cell? ⟨w.heap.size, 0, none⟩ = some (.int .i64 op) := by simp [go_sem]
  have c1 : (w.alloc (Obj.cells #[Value.int .i64 op, Value.int .i64 vr, Value.int .i64 A, Value.int .i64 B, Value.int .i64 bw, Value.slice wa ws.length wc, Value.slice ka ks.length kc] 54)).cell? ⟨w.heap.size, 1, none⟩ = some (.int .i64 vr) := by simp [go_sem]
  have c2 : (w.alloc (Obj.cells #[Value.int .i64 op, Value.int .i64 vr, Value.int .i64 A, Value.int .i64 B, Value.int .i64 bw, Value.slice wa ws.length wc, Value.slice ka ks.length kc] 54)).cell? ⟨w.heap.size, 2, none⟩ = some (.int .i64 A) := by simp [go_sem]
  have c3 : (w.alloc (Obj.cells #[Value.int .i64 op, Value.int .i64 vr, Value.int .i64 A, Value.int .i64 B, Value.int .i64 bw, Value.slice wa ws.length wc, Value.slice ka ks.length kc] 54)).cell? ⟨w.heap.size, 3, none⟩ = some (.int .i64 B) := by simp [go_sem]
  have c4 : (w.alloc (Obj.cells #[Value.int .i64 op, Value.int .i64 vr, Value.int .i64 A, Value.int .i64 B, Value.int .i64 bw, Value.slice wa ws.length wc, Value.slice ka ks.length kc] 54)).cell? ⟨w.heap.size, 4, none⟩ = some (.int .i64 bw) := by simp [go_sem]
  have c5 : (w.alloc (Obj.cells #[Value.int .i64 op, Value.int .i64 vr, Value.int .i64 A, Value.int .i64 B, Value.int .i64 bw, Value.slice wa ws.length wc, Value.slice ka ks.length kc] 54)).cell? ⟨w.heap.size, 5, none⟩ = some (.slice wa ws.length wc) := by simp [go_sem]
  have c6 : (w.alloc (Obj.cells #[Value.int .i64 op, Value.int .i64 vr, Value.int .i64 A, Value.int .i64 B, Value.int .i64 bw, Value.slice wa ws.length wc, Value.slice ka ks.length kc] 54)).cell? ⟨w.heap.size, 6, none⟩ = some (.slice ka ks.length kc) := by simp [go_sem]
  generalize (w.alloc (Obj.cells #[Value.int .i64 op, Value.int .i64 vr, Value.int .i64 A, Value.int .i64 B, Value.int .i64 bw, Value.slice wa ws.length wc, Value.slice ka ks.length kc] 54)) = w0 at *
  have hs0 := sumR_range wide ks 0 HWD.out (by omega) (by omega)
  generalize hSS : sumR wide ks 0 = SS at *
  have HSS := kide hSS
  clear hSS
  go_loopw [7, 8] (fun q i wr => ∃ (k : Nat) (S : Int), k ≤ ks.length ∧ i = .int .i64 k ∧ q = .int .i64 S ∧ 0 ≤ S ∧ S ≤ 8192 ∧ sumR wide (ks.drop k) S = SS ∧ wr = w0) (fun _ i _ => ks.length - (intOf i).toNat)
  case atStart => exact ⟨0, 0, Nat.zero_le _, rfl, rfl, by omega, by omega, by rw [List.drop_zero]; exact HSS.out, rfl⟩
  case round =>
    obtain ⟨k, S, hk, rfl, rfl, hS0, hS1, hq, rfl⟩ := hrel
    have HQ := kide hq
    clear hq HSS
    by_cases hlt : k < ks.length
    · obtain ⟨-, -, h | ⟨b, o, rfl, hc⟩⟩ := HK.out
      · subst h; simp at hlt
      have g0 := hc k hlt
      clear hc HK
      have hgk : ks[k] = ks.getD k 0 := by simp [List.getD, hlt]
      have HGK := kide hgk
      have hmem : ks.getD k 0 ∈ ks := by rw [← hgk]; exact List.getElem_mem hlt
      clear hgk
      generalize ks.getD k 0 = y at *
      have hy := HKR.out
      rw [kidsR, List.all_eq_true] at hy
      have hy2 := hy y hmem
      clear hy hmem
      simp at hy2
      obtain ⟨m, rfl⟩ : ∃ m : Nat, y = (m : Int) := ⟨y.toNat, by omega⟩
      have hm : m < wide.length := by omega
      clear hy2
      obtain ⟨-, -, h | ⟨b', o', rfl, hc'⟩⟩ := HY.out
      · subst h; simp at hm
      have g1 := hc' m hm
      clear hc' HY
      have hxm : wide.getD m 0 ∈ wide := by
        have : wide.getD m 0 = wide[m] := by simp [List.getD, hm]
        rw [this]; exact List.getElem_mem hm
      have hx := HWD.out _ hxm
      clear hxm
      have hst : sumR wide (ks.drop (k + 1)) (min 8192 (S + wide.getD m 0)) = SS := by
        have h := HQ.out
        rw [List.drop_eq_getElem_cons hlt, HGK.out, sumR, Int.toNat_natCast] at h
        exact h
      generalize wide.getD m 0 = x at *
      have HST := kide hst
      have i0 : (k : Int) < (ks.length : Int) := by omega
      clear hst HQ HGK
      go_wp2_with fail
      go_roundw
      case rel => exact ⟨k + 1, _, by omega, by go_num, rfl, by omega, by omega, HST.out, by first | rfl | trivial⟩
      case measure => simp [intOf]; omega
    · have e : k = ks.length := by omega
      subst e
      have hSe : S = SS := by
        have h := HQ.out
        rw [List.drop_length, sumR] at h
        exact h
      subst hSe
      clear HQ hlt hk
      have HLI := kide (fun u => l1In_any A 0 4096 u)
      have HLJ := kide (fun u => l1In_any A 1 4096 u)
      rcases (show op = 1 ∨ op = 2 ∨ op = 4 ∨ op = 5 ∨ op = 6 ∨ op = 7 ∨ op = 8 ∨ op = 9 ∨ (op ≠ 1 ∧ op ≠ 2 ∧ op ≠ 4 ∧ op ≠ 5 ∧ op ≠ 6 ∧ op ≠ 7 ∧ op ≠ 8 ∧ op ≠ 9) by omega) with rfl | rfl | rfl | rfl | rfl | rfl | rfl | rfl | ⟨g1, g2, g4, g5, g6, g7, g8, g9⟩
      · have hv := HV.out rfl
        obtain ⟨m, rfl⟩ : ∃ m : Nat, vr = (m : Int) := ⟨vr.toNat, by omega⟩
        have hm : m < ds.length := by omega
        obtain ⟨-, -, h | ⟨b, o, rfl, hc⟩⟩ := HR.out
        · subst h; simp at hm
        have gd : ds[m]? = some (ds.getD m (.empty, 0)) := by simp [List.getD, hm]
        obtain ⟨g0, g1⟩ := hc m _ gd
        have hZ := HZ.out
        simp only [wideR, if_true, Int.toNat_natCast] at hZ
        generalize ds.getD m (.empty, 0) = d at *
        obtain ⟨dn, dw⟩ := d
        simp only [] at g0 g1 hZ
        subst hZ
        clear hc HR gd HV HZ hv
        go_wp2_with fail
        go_ret
        exact ⟨rfl, B0.out⟩
      · have hZ := HZ.out
        simp [wideR] at hZ
        subst hZ
        clear HZ HV
        go_wp2_with fail
        go_ret
        exact ⟨rfl, B0.out⟩
      · have hZ := HZ.out
        simp [wideR] at hZ
        have HZ2 := kide hZ
        clear HZ HV hZ
        go_wp2_with fail
        all_goals go_ret
        all_goals refine ⟨ret_int ?_, B0.out⟩
        all_goals (have h := HZ2.out; split at h <;> omega)
      · have hZ := HZ.out
        simp [wideR] at hZ
        have HZ2 := kide hZ
        clear HZ HV hZ
        by_cases hA2 : 0 ≤ A ∧ A ≤ 4096
        · rw [decide_eq_true hA2] at HLI
          have h := HZ2.out
          rw [if_pos hA2] at h
          subst h
          go_wp2_with (go_at_call 46; refine Calls.mono (HLI.out _) ?_; rintro e w1 ⟨rfl, rfl⟩)
          go_ret
          exact ⟨rfl, B0.out⟩
        · rw [decide_eq_false hA2] at HLI
          have h := HZ2.out
          rw [if_neg hA2] at h
          subst h
          go_wp2_with (go_at_call 46; refine Calls.mono (HLI.out _) ?_; rintro e w1 ⟨rfl, rfl⟩)
          go_ret
          exact ⟨rfl, B0.out⟩
      · have hZ := HZ.out
        simp [wideR] at hZ
        have HZ2 := kide hZ
        clear HZ HV hZ
        by_cases hA2 : 0 ≤ A ∧ A ≤ 4096
        · rw [decide_eq_true hA2] at HLI
          have h := HZ2.out
          rw [if_pos hA2] at h
          subst h
          go_wp2_with (go_at_call 46; refine Calls.mono (HLI.out _) ?_; rintro e w1 ⟨rfl, rfl⟩)
          go_ret
          exact ⟨rfl, B0.out⟩
        · rw [decide_eq_false hA2] at HLI
          have h := HZ2.out
          rw [if_neg hA2] at h
          subst h
          go_wp2_with (go_at_call 46; refine Calls.mono (HLI.out _) ?_; rintro e w1 ⟨rfl, rfl⟩)
          go_ret
          exact ⟨rfl, B0.out⟩
      · have hZ := HZ.out
        simp [wideR] at hZ
        have HZ2 := kide hZ
        clear HZ HV hZ
        by_cases hA2 : 0 ≤ A ∧ A ≤ 4096
        · rw [decide_eq_true hA2] at HLI
          have h := HZ2.out
          rw [if_pos hA2] at h
          subst h
          go_wp2_with (go_at_call 46; refine Calls.mono (HLI.out _) ?_; rintro e w1 ⟨rfl, rfl⟩)
          go_ret
          exact ⟨rfl, B0.out⟩
        · rw [decide_eq_false hA2] at HLI
          have h := HZ2.out
          rw [if_neg hA2] at h
          subst h
          go_wp2_with (go_at_call 46; refine Calls.mono (HLI.out _) ?_; rintro e w1 ⟨rfl, rfl⟩)
          go_ret
          exact ⟨rfl, B0.out⟩
      · have hZ := HZ.out
        simp [wideR] at hZ
        have HZ2 := kide hZ
        clear HZ HV hZ
        by_cases hA2 : 0 ≤ A ∧ A ≤ 4096
        · rw [decide_eq_true hA2] at HLI
          have h := HZ2.out
          rw [if_pos hA2] at h
          subst h
          go_wp2_with (go_at_call 46; refine Calls.mono (HLI.out _) ?_; rintro e w1 ⟨rfl, rfl⟩)
          go_ret
          exact ⟨rfl, B0.out⟩
        · rw [decide_eq_false hA2] at HLI
          have h := HZ2.out
          rw [if_neg hA2] at h
          subst h
          go_wp2_with (go_at_call 46; refine Calls.mono (HLI.out _) ?_; rintro e w1 ⟨rfl, rfl⟩)
          go_ret
          exact ⟨rfl, B0.out⟩
      · have hZ := HZ.out
        simp [wideR] at hZ
        have HZ2 := kide hZ
        clear HZ HV hZ
        by_cases hA2 : 1 ≤ A ∧ A ≤ 4096
        · rw [decide_eq_true hA2] at HLJ
          have h := HZ2.out
          rw [if_pos hA2] at h
          subst h
          first | (have hmul : 0 ≤ S * A ∧ S * A ≤ 33554432 := ⟨Int.mul_nonneg (by omega) (by omega), by have := Int.mul_le_mul hS1 hA2.2 (by omega) (by omega : (0 : Int) ≤ 8192); omega⟩) | skip
          go_wp2_with (go_at_call 46; refine Calls.mono (HLJ.out _) ?_; rintro e w1 ⟨rfl, rfl⟩)
          go_ret
          exact ⟨rfl, B0.out⟩
        · rw [decide_eq_false hA2] at HLJ
          have h := HZ2.out
          rw [if_neg hA2] at h
          subst h
          go_wp2_with (go_at_call 46; refine Calls.mono (HLJ.out _) ?_; rintro e w1 ⟨rfl, rfl⟩)
          go_ret
          exact ⟨rfl, B0.out⟩
      · have hZ := HZ.out
        simp [wideR, g1, g2, g4, g5, g6, g7, g8, g9] at hZ
        subst hZ
        have m1 : (op == 1) = false := by simp; omega
        have m2 : (op == 2) = false := by simp; omega
        have m4 : (op == 4) = false := by simp; omega
        have m5 : (op == 5) = false := by simp; omega
        have m6 : (op == 6) = false := by simp; omega
        have m7 : (op == 7) = false := by simp; omega
        have m8 : (op == 8) = false := by simp; omega
        have m9 : (op == 9) = false := by simp; omega
        clear HZ HV
        go_wp2_with fail
        go_ret
        exact ⟨rfl, B0.out⟩

end Go.Proofs.YteenmffhbgpahaaDoor
