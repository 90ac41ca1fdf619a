/- Declare: whether a name stands among the variables, on both sides. -/
import Derived.Test.YtofdkdaehhpgbaaGreatDoorZK
import Derived.Handy
namespace Go.Proofs.YtofdkdaehhpgbaaGreatDoor
set_option linter.unusedVariables false
set_option linter.unusedSimpArgs false
open Go.RowKit

/-- Whether some variable has the name. -/
def hasN (s : ByteArray) (ds : List Dc) : Bool := ds.any fun d => d.1.toList == s.toList
theorem anyD_step {p : Dc → Bool} {xs : List Dc} {k : Nat} {x : Dc} (h : xs[k]? = some x) : (xs.drop k).any p = (p x || (xs.drop (k + 1)).any p) := by
  have hk : k < xs.length := (List.getElem?_eq_some_iff.1 h).1
  have hx : xs[k] = x := (List.getElem?_eq_some_iff.1 h).2
  rw [List.drop_eq_getElem_cons hk, hx, List.any_cons]

set_option maxHeartbeats 1000000 in
theorem l3Find_any (s : ByteArray) (a : Option Addr) (c n : Nat) (xs : List Dc) (w : World) (hr : RdD w a xs) (hn : xs.length = n) :
    Calls Tryz.prog 22 #[.slice a n c, .string s] w fun e w' => ∃ r : Int, e = .returned (.int .i64 r) ∧ decide (0 ≤ r) = hasN s xs ∧ w' = w := by
  have hlen := hr.1
  rw [hn] at hlen
  have HN := kide hn
  generalize hzz : hasN s xs = Z
  have HZ := kide hzz
  clear hn hzz
  unfold hasN at HZ
  go_enter Tryz.func22, Tryz.ntmps22
  go_wp2_with fail
  go_loopw [5] (fun i wr => ∃ k : Nat, k ≤ n ∧ i = .int .i64 (k : Int) ∧ (xs.drop k).any (fun d => d.1.toList == s.toList) = Z ∧ wr = w) (fun i _ => n - (intOf i).toNat)
  case atStart => exact ⟨0, Nat.zero_le _, rfl, by simpa using HZ.out, rfl⟩
  case round =>
      obtain ⟨k, hk, rfl, hz, rfl⟩ := hrel
      by_cases hlt : k < n
      · obtain ⟨-, -, h | ⟨b, o, rfl, hc⟩⟩ := hr
        · have := HN.out; subst h; simp at this; omega
        obtain ⟨⟨t, x⟩, gx⟩ : ∃ y, xs[k]? = some y := ⟨xs[k]'(by rw [HN.out]; exact hlt), List.getElem?_eq_getElem _⟩
        obtain ⟨p0, -⟩ := hc k _ gx
        rw [anyD_step gx] at hz
        simp only [] at p0 hz
        clear hc gx
        have i0 : (k : Int) < (n : Int) := by omega
        cases hP : (t.toList == s.toList) with
        | true =>
          rw [hP] at hz
          have HZ1 : Hid (Z = true) := by show _ = _; rw [← hz]; rfl
          clear hz
          go_wp2_with fail
          go_ret
          exact ⟨_, rfl, by rw [HZ1.out]; exact decide_eq_true (by omega), rfl⟩
        | false =>
          rw [hP, Bool.false_or] at hz
          have HZ1 := kide hz
          clear hz
          go_wp2_with fail
          go_roundw
          case rel => exact ⟨k + 1, by omega, by go_num, HZ1.out, trivial⟩
          case measure => simp [intOf]; omega
      · have HZ1 : Hid (Z = false) := by
          show _ = _
          rw [← hz, List.drop_eq_nil_of_le (by have := HN.out; omega)]; rfl
        clear hz
        go_wp2_with fail
        go_ret
        exact ⟨-1, rfl, by rw [HZ1.out]; rfl, rfl⟩

/-- The closure that declareCode makes. -/
theorem decF_any (s : ByteArray) (bv : Nat) (d : Dc) (w : World) (hc : w.cell? ⟨bv, 0, none⟩ = some (.string s)) :
    Calls Tryz.prog 61 #[.agg #[.string d.1, .int .i64 d.2], .pointer (some ⟨bv, 0, none⟩)] w fun e w' => e = .returned (.bool (d.1.toList == s.toList)) ∧ Below w.heap.size w w' := by
  have hbx : Below w.heap.size w (w.alloc (Obj.cells #[Value.string d.1, Value.int .i64 d.2] 50)) := (Below.refl _ _).alloc (Nat.le_refl _) _
  have c1 := (kcell hbx _ _ (block_lt_of_cell hc)).trans hc
  go_enter Tryz.func61, Tryz.ntmps61
  go_wp2_with fail
  go_ret
  exact ⟨rfl, hbx⟩

set_option maxHeartbeats 1000000 in
theorem IndexD_any (f : Nat) (hf : ∀ args w, Sem.run Tryz.prog (callFunc f args) w = .ok (.enter f args) w) (cv : Value) (p : Dc → Bool) (a : Option Addr) (c n : Nat) (xs : List Dc) (w : World) (hr : RdD w a xs) (hn : xs.length = n)
    (HF : Hid (∀ u, Below w.heap.size w u → ∀ x ∈ xs, Calls Tryz.prog f #[.agg #[.string x.1, .int .i64 x.2], cv] u fun e w' => e = .returned (.bool (p x)) ∧ Below u.heap.size u w')) :
    Calls Tryz.prog 87 #[.slice a n c, .func (.func f) #[] #[cv]] w fun e w' => ∃ r : Int, e = .returned (.int .i64 r) ∧ decide (0 ≤ r) = xs.any p ∧ Below w.heap.size w w' := by
  have hlen := hr.1
  rw [hn] at hlen
  have HN := kide hn
  generalize hzz : xs.any p = Z
  have HZ := kide hzz
  clear hn hzz
  go_enter Tryz.func87, Tryz.ntmps87
  go_wp2_with fail
  go_loopw [8] (fun i wr => ∃ k : Nat, k ≤ n ∧ i = .int .i64 (k : Int) ∧ (xs.drop k).any p = Z ∧ Below w.heap.size w wr) (fun i _ => n - (intOf i).toNat)
  case atStart => exact ⟨0, Nat.zero_le _, rfl, by simpa using HZ.out, Below.refl _ _⟩
  case round =>
      obtain ⟨k, hk, rfl, hz, hbel⟩ := hrel
      have HB := kide hbel
      by_cases hlt : k < n
      · obtain ⟨-, -, h | ⟨b, o, rfl, hc⟩⟩ := hr
        · have := HN.out; subst h; simp at this; omega
        obtain ⟨⟨t, x⟩, gx⟩ : ∃ y, xs[k]? = some y := ⟨xs[k]'(by rw [HN.out]; exact hlt), List.getElem?_eq_getElem _⟩
        obtain ⟨p0, p1⟩ := (hc k _ gx).later hbel
        have HCL := kide (HF.out wr hbel _ (List.mem_of_getElem? gx))
        rw [anyD_step gx] at hz
        generalize p (t, x) = P1 at *
        simp only [] at p0 p1 HCL
        clear hc gx
        have i0 : (k : Int) < (n : Int) := by omega
        clear hbel
        cases P1 with
        | true =>
          have HZ1 : Hid (Z = true) := by show _ = _; rw [← hz]; rfl
          clear hz
          go_wp2_with fail
          refine Calls.mono HCL.out ?_
          rintro e w1 ⟨rfl, hb1⟩
          go_wp2_with fail
          go_ret
          exact ⟨_, rfl, by rw [HZ1.out]; exact decide_eq_true (by omega), HB.out.trans (hb1.mono HB.out.size)⟩
        | false =>
          rw [Bool.false_or] at hz
          have HZ1 := kide hz
          clear hz
          go_wp2_with fail
          refine Calls.mono HCL.out ?_
          rintro e w1 ⟨rfl, hb1⟩
          go_wp2_with fail
          go_roundw
          case rel => exact ⟨k + 1, by omega, by go_num, HZ1.out, HB.out.trans (hb1.mono HB.out.size)⟩
          case measure => simp [intOf]; omega
      · have HZ1 : Hid (Z = false) := by
          show _ = _
          rw [← hz, List.drop_eq_nil_of_le (by have := HN.out; omega)]; rfl
        clear hz hbel
        go_wp2_with fail
        go_ret
        exact ⟨-1, rfl, by rw [HZ1.out]; rfl, HB.out⟩

theorem ContainsD_any (f : Nat) (hf : ∀ args w, Sem.run Tryz.prog (callFunc f args) w = .ok (.enter f args) w) (cv : Value) (p : Dc → Bool) (a : Option Addr) (c n : Nat) (xs : List Dc) (w : World) (hr : RdD w a xs) (hn : xs.length = n)
    (HF : Hid (∀ u, Below w.heap.size w u → ∀ x ∈ xs, Calls Tryz.prog f #[.agg #[.string x.1, .int .i64 x.2], cv] u fun e w' => e = .returned (.bool (p x)) ∧ Below u.heap.size u w')) :
    Calls Tryz.prog 60 #[.slice a n c, .func (.func f) #[] #[cv]] w fun e w' => e = .returned (.bool (xs.any p)) ∧ Below w.heap.size w w' := by
  have HI := kide (IndexD_any f hf cv p a c n xs w hr hn HF)
  generalize xs.any p = Z at *
  clear hr hn HF
  go_enter Tryz.func60, Tryz.ntmps60
  go_wp2_with fail
  refine Calls.mono HI.out ?_
  rintro e w1 ⟨r, rfl, hr, hb1⟩
  have HR := kide hr
  clear hr
  go_wp2_with fail
  go_ret
  exact ⟨ret_bool HR.out, hb1⟩
set_option maxRecDepth 100000 in
theorem enter_decF : ∀ args w, Sem.run Tryz.prog (callFunc 61 args) w = .ok (.enter 61 args) w := fun args w => by rfl

end Go.Proofs.YtofdkdaehhpgbaaGreatDoor
