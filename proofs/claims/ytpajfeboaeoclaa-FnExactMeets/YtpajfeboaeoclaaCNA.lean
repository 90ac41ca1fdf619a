/- Whether a function value says yes of some row, or of some number: slices.IndexFunc, slices.ContainsFunc. -/
import Derived.Test.YtpajfeboaeoclaaLAX
import Derived.Test.YtpajfeboaeoclaaCL
import Derived.Handy
namespace Go.Proofs.Ytpajfeboaeoclaa
set_option linter.unusedVariables false
set_option linter.unusedSimpArgs false
open Go.RowKit

theorem any_step {α : Type} {p : α → Bool} {xs : List α} {k : Nat} {x : α} (h : xs[k]? = some x) : (xs.drop k).any p = (p x || (xs.drop (k + 1)).any p) := by
  have hk : k < xs.length := (List.getElem?_eq_some_iff.1 h).1
  have hx : xs[k] = x := (List.getElem?_eq_some_iff.1 h).2
  rw [List.drop_eq_getElem_cons hk, hx, List.any_cons]

theorem IndexSS_any (f : Nat) (hf : ∀ args w, Sem.run Try.prog (callFunc f args) w = .ok (.enter f args) w) (cv : Value) (p : List Int → Bool) (a : Option Addr) (c n : Nat) (xs : List Iw) (w : World) (hr : RdII w a xs) (hn : xs.length = n)
    (HF : Hid (∀ u, Below w.heap.size w u → ∀ x ∈ xs, Calls Try.prog f #[.slice x.a x.ks.length x.c, cv] u fun e w' => e = .returned (.bool (p x.ks)) ∧ Below u.heap.size u w')) :
    Calls Try.prog 59 #[.slice a n c, .func (.func f) #[] #[cv]] w fun e w' => ∃ r : Int, e = .returned (.int .i64 r) ∧ decide (0 ≤ r) = (xs.map Iw.ks).any p ∧ Below w.heap.size w w' := by
  have hlen := hr.1
  rw [hn] at hlen
  have HN := kide hn
  generalize hzz : (xs.map Iw.ks).any p = Z
  have HZ := kide hzz
  clear hn hzz
  go_enter Try.func59, Try.ntmps59
  go_wp2_with fail
  go_loopw [8] (fun i wr => ∃ k : Nat, k ≤ n ∧ i = .int .i64 (k : Int) ∧ ((xs.map Iw.ks).drop k).any p = Z ∧ Below w.heap.size w wr) (fun i _ => n - (intOf i).toNat)
  case atStart => exact ⟨0, Nat.zero_le _, rfl, by simpa using HZ.out, Below.refl _ _⟩
  case round =>
      obtain ⟨k, hk, rfl, hz, hbel⟩ := hrel
      have HB := kide hbel
      by_cases hlt : k < n
      · obtain ⟨-, h | ⟨b, o, rfl, hc⟩⟩ := hr
        · have := HN.out; subst h; simp at this; omega
        obtain ⟨s, gx⟩ : ∃ y, xs[k]? = some y := ⟨xs[k]'(by rw [HN.out]; exact hlt), List.getElem?_eq_getElem _⟩
        obtain ⟨p0, -⟩ := (hc k _ gx).later hbel
        have HCL := kide (HF.out wr hbel s (List.mem_of_getElem? gx))
        rw [any_step (x := s.ks) (by rw [List.getElem?_map, gx]; rfl)] at hz
        obtain ⟨a1, c1, k1⟩ := s
        simp only [] at p0 HCL hz
        generalize p k1 = P1 at *
        clear hc gx
        have i0 : (k : Int) < (n : Int) := by omega
        clear hbel
        cases P1 with
        | true =>
          have HZ1 : Hid (Z = true) := by show _ = _; rw [← hz]; rfl
          clear hz
          go_wp2_with fail
          refine Calls.mono HCL.out ?_
          rintro e w1 ⟨rfl, hb1⟩
          go_wp2_with fail
          go_ret
          exact ⟨_, rfl, by rw [HZ1.out]; exact decide_eq_true (by omega), HB.out.trans (hb1.mono HB.out.size)⟩
        | false =>
          rw [Bool.false_or] at hz
          have HZ1 := kide hz
          clear hz
          go_wp2_with fail
          refine Calls.mono HCL.out ?_
          rintro e w1 ⟨rfl, hb1⟩
          go_wp2_with fail
          go_roundw
          case rel => exact ⟨k + 1, by omega, by go_num, HZ1.out, HB.out.trans (hb1.mono HB.out.size)⟩
          case measure => simp [intOf]; omega
      · have HZ1 : Hid (Z = false) := by
          show _ = _
          rw [← hz, List.drop_eq_nil_of_le (by have := HN.out; simp; omega)]; rfl
        clear hz hbel
        go_wp2_with fail
        go_ret
        exact ⟨-1, rfl, by rw [HZ1.out]; rfl, HB.out⟩

theorem ContainsSS_any (f : Nat) (hf : ∀ args w, Sem.run Try.prog (callFunc f args) w = .ok (.enter f args) w) (cv : Value) (p : List Int → Bool) (a : Option Addr) (c n : Nat) (xs : List Iw) (w : World) (hr : RdII w a xs) (hn : xs.length = n)
    (HF : Hid (∀ u, Below w.heap.size w u → ∀ x ∈ xs, Calls Try.prog f #[.slice x.a x.ks.length x.c, cv] u fun e w' => e = .returned (.bool (p x.ks)) ∧ Below u.heap.size u w')) :
    Calls Try.prog 35 #[.slice a n c, .func (.func f) #[] #[cv]] w fun e w' => e = .returned (.bool ((xs.map Iw.ks).any p)) ∧ Below w.heap.size w w' := by
  have HI := kide (IndexSS_any f hf cv p a c n xs w hr hn HF)
  generalize (xs.map Iw.ks).any p = Z at *
  clear hr hn HF
  go_enter Try.func35, Try.ntmps35
  go_wp2_with fail
  refine Calls.mono HI.out ?_
  rintro e w1 ⟨r, rfl, hr, hb1⟩
  have HR := kide hr
  clear hr
  go_wp2_with fail
  go_ret
  exact ⟨ret_bool HR.out, hb1⟩

theorem IndexS_any (f : Nat) (hf : ∀ args w, Sem.run Try.prog (callFunc f args) w = .ok (.enter f args) w) (cv : Value) (p : Int → Bool) (a : Option Addr) (c n : Nat) (xs : List Int) (w : World) (hr : RdI w a xs) (hn : xs.length = n)
    (HF : Hid (∀ u, Below w.heap.size w u → ∀ x ∈ xs, Calls Try.prog f #[.int .i64 x, cv] u fun e w' => e = .returned (.bool (p x)) ∧ Below u.heap.size u w')) :
    Calls Try.prog 60 #[.slice a n c, .func (.func f) #[] #[cv]] w fun e w' => ∃ r : Int, e = .returned (.int .i64 r) ∧ decide (0 ≤ r) = xs.any p ∧ Below w.heap.size w w' := by
  have hlen := hr.1
  rw [hn] at hlen
  have HN := kide hn
  generalize hzz : xs.any p = Z
  have HZ := kide hzz
  clear hn hzz
  go_enter Try.func60, Try.ntmps60
  go_wp2_with fail
  go_loopw [8] (fun i wr => ∃ k : Nat, k ≤ n ∧ i = .int .i64 (k : Int) ∧ (xs.drop k).any p = Z ∧ Below w.heap.size w wr) (fun i _ => n - (intOf i).toNat)
  case atStart => exact ⟨0, Nat.zero_le _, rfl, by simpa using HZ.out, Below.refl _ _⟩
  case round =>
      obtain ⟨k, hk, rfl, hz, hbel⟩ := hrel
      have HB := kide hbel
      by_cases hlt : k < n
      · obtain ⟨-, hi64, h | ⟨b, o, rfl, hc⟩⟩ := hr
        · have := HN.out; subst h; simp at this; omega
        have hltx : k < xs.length := by rw [HN.out]; exact hlt
        have gx : xs[k]? = some (xs.getD k 0) := by simp [List.getD, hltx]
        have p0 := hc k hltx
        rw [← kcell hbel _ _ (block_lt_of_cell p0)] at p0
        have HCL := kide (HF.out wr hbel _ (List.mem_of_getElem? gx))
        rw [any_step gx] at hz
        generalize xs.getD k 0 = x1 at *
        generalize p x1 = P1 at *
        clear hc hi64 gx hltx
        have i0 : (k : Int) < (n : Int) := by omega
        clear hbel
        cases P1 with
        | true =>
          have HZ1 : Hid (Z = true) := by show _ = _; rw [← hz]; rfl
          clear hz
          go_wp2_with fail
          refine Calls.mono HCL.out ?_
          rintro e w1 ⟨rfl, hb1⟩
          go_wp2_with fail
          go_ret
          exact ⟨_, rfl, by rw [HZ1.out]; exact decide_eq_true (by omega), HB.out.trans (hb1.mono HB.out.size)⟩
        | false =>
          rw [Bool.false_or] at hz
          have HZ1 := kide hz
          clear hz
          go_wp2_with fail
          refine Calls.mono HCL.out ?_
          rintro e w1 ⟨rfl, hb1⟩
          go_wp2_with fail
          go_roundw
          case rel => exact ⟨k + 1, by omega, by go_num, HZ1.out, HB.out.trans (hb1.mono HB.out.size)⟩
          case measure => simp [intOf]; omega
      · have HZ1 : Hid (Z = false) := by
          show _ = _
          rw [← hz, List.drop_eq_nil_of_le (by have := HN.out; simp; omega)]; rfl
        clear hz hbel
        go_wp2_with fail
        go_ret
        exact ⟨-1, rfl, by rw [HZ1.out]; rfl, HB.out⟩

theorem ContainsS_any (f : Nat) (hf : ∀ args w, Sem.run Try.prog (callFunc f args) w = .ok (.enter f args) w) (cv : Value) (p : Int → Bool) (a : Option Addr) (c n : Nat) (xs : List Int) (w : World) (hr : RdI w a xs) (hn : xs.length = n)
    (HF : Hid (∀ u, Below w.heap.size w u → ∀ x ∈ xs, Calls Try.prog f #[.int .i64 x, cv] u fun e w' => e = .returned (.bool (p x)) ∧ Below u.heap.size u w')) :
    Calls Try.prog 40 #[.slice a n c, .func (.func f) #[] #[cv]] w fun e w' => e = .returned (.bool (xs.any p)) ∧ Below w.heap.size w w' := by
  have HI := kide (IndexS_any f hf cv p a c n xs w hr hn HF)
  generalize xs.any p = Z at *
  clear hr hn HF
  go_enter Try.func40, Try.ntmps40
  go_wp2_with fail
  refine Calls.mono HI.out ?_
  rintro e w1 ⟨r, rfl, hr, hb1⟩
  have HR := kide hr
  clear hr
  go_wp2_with fail
  go_ret
  exact ⟨ret_bool HR.out, hb1⟩

theorem enter_CnfOk1 : ∀ args w, Sem.run Try.prog (callFunc 33 args) w = .ok (.enter 33 args) w := fun args w => by rfl
theorem enter_Meets1 : ∀ args w, Sem.run Try.prog (callFunc 37 args) w = .ok (.enter 37 args) w := fun args w => by rfl
theorem enter_Meets2 : ∀ args w, Sem.run Try.prog (callFunc 39 args) w = .ok (.enter 39 args) w := fun args w => by rfl

end Go.Proofs.Ytpajfeboaeoclaa
