/- What both ClassAt answer. -/
import Derived.Test.YticpjfdnpdfmeaaND
namespace Go.Proofs.Yticpjfdnpdfmeaa
set_option linter.unusedVariables false
set_option linter.unusedSimpArgs false
open Go.RowKit

/-- Where the first class stands that has a slice; -1: none. -/
def clAt (x : Int) : List Cc → Nat → Int
  | [], _ => -1
  | c :: t, k => if x ∈ c.ks then (k : Int) else clAt x t (k + 1)

theorem l1Has_any (a : Option Addr) (c : Nat) (ks : List Int) (x : Int) (w : World) (hr : RdI w a ks) :
    Calls Try.prog 54 #[.slice a ks.length c, .int .i64 x] w fun e w' => e = .returned (.bool (decide (x ∈ ks))) ∧ w' = w := by
  have hlen := hr.1
  go_enter Try.func54, Try.ntmps54
  go_wp2_with fail
  go_loop [5] (fun i => ∃ k : Nat, k ≤ ks.length ∧ i = .int .i64 (k : Int) ∧ ∀ j, j < k → ks.getD j 0 ≠ x) (fun i => ks.length - (intOf i).toNat)
  case atStart => exact ⟨0, Nat.zero_le _, rfl, fun j h => by omega⟩
  case round =>
    obtain ⟨k, hk, rfl, hz⟩ := hrel
    have HZ := kide hz
    by_cases hlt : k < ks.length
    · obtain ⟨-, -, h | ⟨b, o, rfl, hc⟩⟩ := hr
      · subst h; simp at hlt
      have e0 := hc k hlt
      have hmem : ks.getD k 0 ∈ ks := by simp [List.getD, hlt]
      generalize hy : ks.getD k 0 = y at *
      have HY := kide hy
      have i0 : (k : Int) < (ks.length : Int) := by omega
      clear hc hz hy
      by_cases hxy : y = x
      · have e1 : (y == x) = true := by simp [hxy]
        have HR : Hid (decide (x ∈ ks) = true) := decide_eq_true (by rw [← hxy]; exact hmem)
        clear hxy hmem
        go_wp2_with fail
        go_ret
        exact ⟨ret_bool HR.out.symm, rfl⟩
      · have e1 : (y == x) = false := by simp [hxy]
        have HX := kide hxy
        clear hxy hmem
        go_wp2_with fail
        go_round
        case rel =>
          refine ⟨k + 1, by omega, by go_num, fun j hj => ?_⟩
          by_cases hjk : j = k
          · rw [hjk, HY.out]; exact HX.out
          · exact HZ.out j (by omega)
        case measure => simp [intOf]; omega
    · have HR : Hid (decide (x ∈ ks) = false) := decide_eq_false (fun h => by
        obtain ⟨j, hj, e⟩ := List.mem_iff_getElem.1 h
        exact hz j (by omega) (by simp [List.getD, hj, e]))
      clear hz
      go_wp2_with fail
      go_ret
      exact ⟨ret_bool HR.out.symm, rfl⟩

theorem Index_any (a : Option Addr) (c : Nat) (ks : List Int) (x : Int) (w : World) (hr : RdI w a ks) :
    Calls Try.prog 78 #[.slice a ks.length c, .int .i64 x] w fun e w' => ∃ r : Int, e = .returned (.int .i64 r) ∧ (0 ≤ r ↔ x ∈ ks) ∧ w' = w := by
  have hlen := hr.1
  go_enter Try.func78, Try.ntmps78
  go_wp2_with fail
  go_loop [8] (fun i => ∃ k : Nat, k ≤ ks.length ∧ i = .int .i64 (k : Int) ∧ ∀ j, j < k → ks.getD j 0 ≠ x) (fun i => ks.length - (intOf i).toNat)
  case atStart => exact ⟨0, Nat.zero_le _, rfl, fun j h => by omega⟩
  case round =>
    obtain ⟨k, hk, rfl, hz⟩ := hrel
    have HZ := kide hz
    by_cases hlt : k < ks.length
    · obtain ⟨-, -, h | ⟨b, o, rfl, hc⟩⟩ := hr
      · subst h; simp at hlt
      have e0 := hc k hlt
      have hmem : ks.getD k 0 ∈ ks := by simp [List.getD, hlt]
      generalize hy : ks.getD k 0 = y at *
      have HY := kide hy
      have i0 : (k : Int) < (ks.length : Int) := by omega
      clear hc hz hy
      by_cases hxy : x = y
      · have e1 : (x == y) = true := by simp [hxy]
        have HR : Hid (decide (x ∈ ks) = true) := decide_eq_true (by rw [hxy]; exact hmem)
        clear hxy hmem
        go_wp2_with fail
        go_ret
        exact ⟨_, rfl, ⟨fun _ => of_decide_eq_true HR.out, fun _ => by omega⟩, rfl⟩
      · have e1 : (x == y) = false := by simp [hxy]
        have HX := kide hxy
        clear hxy hmem
        go_wp2_with fail
        go_round
        case rel =>
          refine ⟨k + 1, by omega, by go_num, fun j hj => ?_⟩
          by_cases hjk : j = k
          · rw [hjk, HY.out]; exact fun h => HX.out h.symm
          · exact HZ.out j (by omega)
        case measure => simp [intOf]; omega
    · have HR : Hid (decide (x ∈ ks) = false) := decide_eq_false (fun h => by
        obtain ⟨j, hj, e⟩ := List.mem_iff_getElem.1 h
        exact hz j (by omega) (by simp [List.getD, hj, e]))
      clear hz
      go_wp2_with fail
      go_ret
      exact ⟨_, rfl, ⟨fun h => absurd h (by omega), fun h => absurd h (of_decide_eq_false HR.out)⟩, rfl⟩

theorem Contains_any (a : Option Addr) (c : Nat) (ks : List Int) (x : Int) (w : World) (hr : RdI w a ks) :
    Calls Try.prog 59 #[.slice a ks.length c, .int .i64 x] w fun e w' => e = .returned (.bool (decide (x ∈ ks))) ∧ w' = w := by
  have HI := kide (Index_any a c ks x w hr)
  clear hr
  go_enter Try.func59, Try.ntmps59
  go_wp2_with fail
  refine Calls.mono HI.out ?_
  rintro e w1 ⟨r, rfl, hr1, rfl⟩
  have HR := kide hr1
  clear hr1 HI
  go_wp2_with fail
  go_ret
  exact ⟨ret_bool (decide_eq_decide.2 HR.out), rfl⟩

theorem closure_any (h : Cg) (x : Int) (B : Nat) (w : World) (hr : RdI w h.sa h.ct.ks) (hx : w.cell? ⟨B, 0, none⟩ = some (.int .i64 x)) :
    Calls Try.prog 58 #[h.hd.val, .pointer (some ⟨B, 0, none⟩)] w fun e w' => e = .returned (.bool (decide (x ∈ h.ct.ks))) ∧ Below w.heap.size w w' := by
  obtain ⟨⟨ks, fx, bw, ws⟩, sa, sc, wa, wc⟩ := h
  simp only [Cg.hd, Ch.val] at hr ⊢
  have hb0 : Below w.heap.size w (w.alloc (Obj.cells #[Value.slice sa ks.length sc, Value.bool fx, Value.int .i64 bw, Value.slice wa ws.length wc] 93)) := (Below.refl _ _).alloc (Nat.le_refl _) _
  have HC := kide (Contains_any sa sc ks x _ (hr.later hb0))
  have B0 := kide hb0
  have lB : B < w.heap.size := block_lt_of_cell hx
  clear hr hb0
  go_enter Try.func58, Try.ntmps58
  go_wp2_with fail
  refine Calls.mono HC.out ?_
  rintro e w1 ⟨rfl, rfl⟩
  go_wp2_with fail
  go_ret
  exact ⟨rfl, B0.out⟩

theorem IndexFunc_any (a : Option Addr) (c : Nat) (xs : List Cg) (x : Int) (B : Nat) (w : World) (hr : RdC w a xs) (hx : w.cell? ⟨B, 0, none⟩ = some (.int .i64 x)) :
    Calls Try.prog 57 #[.slice a xs.length c, .func (.func 58) #[] #[.pointer (some ⟨B, 0, none⟩)]] w fun e w' => e = .returned (.int .i64 (clAt x (xs.map Cg.ct) 0)) ∧ Below w.heap.size w w' := by
  have hlen := hr.1
  generalize hZ : clAt x (xs.map Cg.ct) 0 = Z
  have HZ := kide hZ
  clear hZ
  go_enter Try.func57, Try.ntmps57
  go_wp2_with fail
  go_loopw [8] (fun i wr => ∃ k : Nat, k ≤ xs.length ∧ i = .int .i64 (k : Int) ∧ clAt x ((xs.map Cg.ct).drop k) k = Z ∧ Below w.heap.size w wr) (fun i _ => xs.length - (intOf i).toNat)
  case atStart => exact ⟨0, Nat.zero_le _, rfl, by simpa using HZ.out, Below.refl _ _⟩
  case round =>
    obtain ⟨k, hk, rfl, hz, hbel⟩ := hrel
    have HB := kide hbel
    by_cases hlt : k < xs.length
    · obtain ⟨-, h | ⟨b, o, rfl, hc⟩⟩ := hr
      · subst h; simp at hlt
      obtain ⟨s, gx⟩ : ∃ y, xs[k]? = some y := ⟨xs[k], List.getElem?_eq_getElem hlt⟩
      obtain ⟨⟨p0, p1, p2, p3⟩, pi, -⟩ := (hc k _ gx).later hbel
      have hcx : wr.cell? ⟨B, 0, none⟩ = some (.int .i64 x) := (kcell hbel B 0 (block_lt_of_cell hx)).trans hx
      have HCL := kide (closure_any s x B wr pi hcx)
      have hdr : (xs.map Cg.ct).drop k = s.ct :: (xs.map Cg.ct).drop (k + 1) := by
        rw [List.drop_eq_getElem_cons (by simpa using hlt)]
        have : xs[k] = s := by rw [List.getElem?_eq_getElem hlt] at gx; exact Option.some.inj gx
        simp [this]
      rw [hdr, clAt] at hz
      have i0 : (k : Int) < (xs.length : Int) := by omega
      obtain ⟨⟨ks, fx, bw, ws⟩, sa, sc, wa, wc⟩ := s
      simp only [Cg.hd, Ch.val] at p0 p1 p2 p3 HCL hz
      clear hc gx pi hdr hbel hcx
      by_cases hm : x ∈ ks
      · rw [if_pos hm] at hz
        rw [decide_eq_true hm] at HCL
        have HZ1 := kide hz
        clear hz hm
        go_wp2_with fail
        refine Calls.mono HCL.out ?_
        rintro e w1 ⟨rfl, hb1⟩
        go_wp2_with fail
        go_ret
        exact ⟨ret_int HZ1.out, HB.out.trans (hb1.mono HB.out.size)⟩
      · rw [if_neg hm] at hz
        rw [decide_eq_false hm] at HCL
        have HZ1 := kide hz
        clear hz hm
        go_wp2_with fail
        refine Calls.mono HCL.out ?_
        rintro e w1 ⟨rfl, hb1⟩
        go_wp2_with fail
        go_roundw
        case rel => exact ⟨k + 1, by omega, by go_num, HZ1.out, HB.out.trans (hb1.mono HB.out.size)⟩
        case measure => simp [intOf]; omega
    · have hz1 : Z = -1 := by
        rw [← hz, List.drop_eq_nil_of_le (by simp; omega)]; rfl
      have HZ1 := kide hz1
      clear hz hz1 hbel
      go_wp2_with fail
      go_ret
      exact ⟨ret_int HZ1.out.symm, HB.out⟩

theorem clAt_le (x : Int) (cs : List Cc) (k : Nat) : -1 ≤ clAt x cs k ∧ clAt x cs k ≤ ((k + cs.length : Nat) : Int) := by
  induction cs generalizing k with
  | nil => simp [clAt] <;> omega
  | cons c t ih =>
    rw [clAt]
    split
    · simp; omega
    · have := ih (k + 1)
      simp at this ⊢
      omega

theorem implClassAt_any (z : Cz) (x : Int) (w : World) (hz : RdZ w z) :
    Calls Try.prog 33 #[z.val, .int .i64 x] w fun e w' => e = .returned (.int .i64 (clAt x (z.cs.map Cg.ct) 0)) ∧ Below w.heap.size w w' := by
  obtain ⟨a1, c1, xs, a2, c2, cs, a3, c3, ks⟩ := z
  obtain ⟨z1, z2, z3⟩ := hz
  simp only [Cz.val, Cz.ct] at z1 z2 z3 ⊢
  have h2 : Below w.heap.size w ((w.alloc (Obj.cells #[Value.slice a1 xs.length c1, Value.slice a2 cs.length c2, Value.slice a3 ks.length c3] 58)).alloc (Obj.cells #[Value.int .i64 x] 2)) := ((Below.refl _ _).alloc (Nat.le_refl _) _).alloc (by simp) _
  have HI := kide (IndexFunc_any a2 c2 cs x (w.heap.size + 1) _ (z2.later h2) (by simp))
  have hle := clAt_le x (cs.map Cg.ct) 0
  have hl := z2.1
  simp at hle
  generalize clAt x (cs.map Cg.ct) 0 = Z at *
  obtain ⟨hle1, hle2⟩ := hle
  have B2 := kide h2
  clear z1 z2 z3 h2
  go_enter Try.func33, Try.ntmps33
  go_wp2_with fail
  refine Calls.mono HI.out ?_
  rintro e w1 ⟨rfl, hb1⟩
  go_wp2_with fail
  go_ret
  exact ⟨rfl, B2.out.trans (hb1.mono B2.out.size)⟩

theorem specClassAt_any (z : Cz) (x : Int) (w : World) (hz : RdZ w z) :
    Calls Try.prog 31 #[z.val, .int .i64 x] w fun e w' => e = .returned (.int .i64 (clAt x (z.cs.map Cg.ct) 0)) ∧ Below w.heap.size w w' := by
  obtain ⟨a1, c1, xs, a2, c2, cs, a3, c3, ks⟩ := z
  obtain ⟨z1, z2, z3⟩ := hz
  simp only [Cz.val, Cz.ct] at z1 z2 z3 ⊢
  have hb0 : Below w.heap.size w (w.alloc (Obj.cells #[Value.slice a1 xs.length c1, Value.slice a2 cs.length c2, Value.slice a3 ks.length c3] 58)) := (Below.refl _ _).alloc (Nat.le_refl _) _
  have hr := z2.later hb0
  have hl := z2.1
  generalize hZ : clAt x (cs.map Cg.ct) 0 = Z
  have HZ := kide hZ
  have B0 := kide hb0
  clear z1 z2 z3 hb0 hZ
  go_enter Try.func31, Try.ntmps31
  have c0 : (w.alloc (Obj.cells #[Value.slice a1 xs.length c1, Value.slice a2 cs.length c2, Value.slice a3 ks.length c3] 58)).cell? ⟨w.heap.size, 1, none⟩ = some (Value.slice a2 cs.length c2) := by simp
  go_wp2_with fail
  generalize w.alloc (Obj.cells #[Value.slice a1 xs.length c1, Value.slice a2 cs.length c2, Value.slice a3 ks.length c3] 58) = w0 at *
  go_loop [5] (fun i => ∃ k : Nat, k ≤ cs.length ∧ i = .int .i64 (k : Int) ∧ clAt x ((cs.map Cg.ct).drop k) k = Z) (fun i => cs.length - (intOf i).toNat)
  case atStart => exact ⟨0, Nat.zero_le _, rfl, by simpa using HZ.out⟩
  case round =>
    obtain ⟨k, hk, rfl, hz⟩ := hrel
    by_cases hlt : k < cs.length
    · obtain ⟨-, h | ⟨b, o, rfl, hc⟩⟩ := hr
      · subst h; simp at hlt
      obtain ⟨s, gx⟩ : ∃ y, cs[k]? = some y := ⟨cs[k], List.getElem?_eq_getElem hlt⟩
      obtain ⟨⟨p0, -⟩, pi, -⟩ := hc k _ gx
      have HCL := kide (l1Has_any s.sa s.sc s.ct.ks x w0 pi)
      have hdr : (cs.map Cg.ct).drop k = s.ct :: (cs.map Cg.ct).drop (k + 1) := by
        rw [List.drop_eq_getElem_cons (by simpa using hlt)]
        have : cs[k] = s := by rw [List.getElem?_eq_getElem hlt] at gx; exact Option.some.inj gx
        simp [this]
      rw [hdr, clAt] at hz
      have i0 : (k : Int) < (cs.length : Int) := by omega
      obtain ⟨⟨ks', fx, bw, ws⟩, sa, sc, wa, wc⟩ := s
      simp only [Cg.hd] at p0 HCL hz
      clear hc gx pi hdr
      by_cases hm : x ∈ ks'
      · rw [if_pos hm] at hz
        rw [decide_eq_true hm] at HCL
        have HZ1 := kide hz
        clear hz hm
        go_wp2_with fail
        refine Calls.mono HCL.out ?_
        rintro e w1 ⟨rfl, rfl⟩
        go_wp2_with fail
        go_ret
        exact ⟨ret_int HZ1.out, B0.out⟩
      · rw [if_neg hm] at hz
        rw [decide_eq_false hm] at HCL
        have HZ1 := kide hz
        clear hz hm
        go_wp2_with fail
        refine Calls.mono HCL.out ?_
        rintro e w0 ⟨rfl, rfl⟩
        go_wp2_with fail
        go_round
        case rel => exact ⟨k + 1, by omega, by go_num, HZ1.out⟩
        case measure => simp [intOf]; omega
    · have hz1 : Z = -1 := by
        rw [← hz, List.drop_eq_nil_of_le (by simp; omega)]; rfl
      have HZ1 := kide hz1
      clear hz hz1
      go_wp2_with fail
      go_ret
      exact ⟨ret_int HZ1.out.symm, B0.out⟩

end Go.Proofs.Yticpjfdnpdfmeaa
