/- What both StateOf answer. -/
import Derived.Test.YtpfmnfakaeebdaaJX
import Derived.Test.YtpfmnfakaeebdaaJG
namespace Go.Proofs.Ytpfmnfakaeebdaa
set_option linter.unusedVariables false
set_option linter.unusedSimpArgs false
open Go.RowKit

/-- The state of the first split of this number; 0: none. -/
def stR (x : Int) : List Pc → Int
  | [] => 0
  | p :: t => if p.id = x then p.st else stR x t

theorem stR_step {x : Int} {ps : List Pc} {k : Nat} {p : Pc} (h : ps[k]? = some p) : stR x (ps.drop k) = if p.id = x then p.st else stR x (ps.drop (k + 1)) := by
  obtain ⟨hk, rfl⟩ := List.getElem?_eq_some_iff.1 h
  rw [List.drop_eq_getElem_cons hk, stR]

theorem implState_any (a : Option Addr) (c n : Nat) (xs : List Pg) (x : Int) (w : World) (hr : RdP w a xs) (hn : xs.length = n) :
    Calls Try.prog 9 #[.slice a n c, .int .i64 x] w fun e w' => e = .returned (.int .i64 (stR x (xs.map Pg.ct))) ∧ Below w.heap.size w w' := by
  subst hn
  have hlen := hr.1
  have HRD := kide (fun u (hu : Below w.heap.size w u) => hr.later hu)
  generalize hZ : stR x (xs.map Pg.ct) = Z
  have HZ := kide hZ
  clear hZ hr
  go_enter Try.func9, Try.ntmps9
  go_wp2_with fail
  go_loopw [9] (fun i wr => ∃ k : Nat, k ≤ xs.length ∧ i = .int .i64 k ∧ stR x ((xs.map Pg.ct).drop k) = Z ∧ Below w.heap.size w wr) (fun i _ => xs.length - (intOf i).toNat)
  case atStart => exact ⟨0, Nat.zero_le _, rfl, by rw [List.drop_zero]; exact HZ.out, Below.refl _ _⟩
  case round =>
    obtain ⟨k, hk, rfl, hq, hbel⟩ := hrel
    have HB := kide hbel
    by_cases hlt : k < xs.length
    · obtain ⟨-, h | ⟨b, o, rfl, hc⟩⟩ := HRD.out wr hbel
      · subst h; simp at hlt
      obtain ⟨⟨id, st, bs, a1, c1⟩, hx⟩ : ∃ y, xs[k]? = some y := ⟨_, List.getElem?_eq_getElem hlt⟩
      obtain ⟨⟨p0, p1, p2⟩, -, -⟩ := hc k _ hx
      simp only [] at p0 p1 p2
      have i0 : (k : Int) < (xs.length : Int) := by omega
      rw [stR_step (p := ⟨id, st, bs.map Yg.ct⟩) (by rw [List.getElem?_map, hx]; rfl)] at hq
      have HQ := kide hq
      have HA : Hid (Below w.heap.size w (wr.alloc (.cells #[Value.int .i64 id, Value.int .i64 st, Value.slice a1 bs.length c1] 52))) := HB.out.alloc HB.out.size _
      clear hc hx hq hbel
      generalize bs.length = m at *
      by_cases h1 : id = x
      · subst h1
        have h2 : (id == id) = true := by simp
        go_wp2_with fail
        go_ret
        exact ⟨ret_int (by simpa using HQ.out), HA.out⟩
      · have h2 : (id == x) = false := by simp [h1]
        have H1 := kide h1
        clear h1
        go_wp2_with fail
        go_roundw
        case rel => exact ⟨k + 1, by omega, by go_num, (if_neg H1.out).symm.trans HQ.out, HA.out⟩
        case measure => simp [intOf]; omega
    · have e : k = xs.length := by omega
      rw [e, List.drop_of_length_le (by simp), stR] at hq
      have HQ := kide hq
      clear hq
      go_wp2_with fail
      go_ret
      exact ⟨ret_int HQ.out, hbel⟩

theorem specState_any (a : Option Addr) (c n : Nat) (xs : List Pg) (x : Int) (w : World) (hr : RdP w a xs) (hn : xs.length = n) :
    Calls Try.prog 7 #[.slice a n c, .int .i64 x] w fun e w' => e = .returned (.int .i64 (stR x (xs.map Pg.ct))) ∧ Below w.heap.size w w' := by
  subst hn
  have hlen := hr.1
  have HRD := kide (fun u (hu : Below w.heap.size w u) => hr.later hu)
  generalize hZ : stR x (xs.map Pg.ct) = Z
  have HZ := kide hZ
  clear hZ hr
  go_enter Try.func7, Try.ntmps7
  go_wp2_with fail
  go_loopw [5] (fun i wr => ∃ k : Nat, k ≤ xs.length ∧ i = .int .i64 k ∧ stR x ((xs.map Pg.ct).drop k) = Z ∧ Below w.heap.size w wr) (fun i _ => xs.length - (intOf i).toNat)
  case atStart => exact ⟨0, Nat.zero_le _, rfl, by rw [List.drop_zero]; exact HZ.out, Below.refl _ _⟩
  case round =>
    obtain ⟨k, hk, rfl, hq, hbel⟩ := hrel
    have HB := kide hbel
    by_cases hlt : k < xs.length
    · obtain ⟨-, h | ⟨b, o, rfl, hc⟩⟩ := HRD.out wr hbel
      · subst h; simp at hlt
      obtain ⟨⟨id, st, bs, a1, c1⟩, hx⟩ : ∃ y, xs[k]? = some y := ⟨_, List.getElem?_eq_getElem hlt⟩
      obtain ⟨⟨p0, p1, p2⟩, -, -⟩ := hc k _ hx
      simp only [] at p0 p1 p2
      have i0 : (k : Int) < (xs.length : Int) := by omega
      rw [stR_step (p := ⟨id, st, bs.map Yg.ct⟩) (by rw [List.getElem?_map, hx]; rfl)] at hq
      have HQ := kide hq
      clear hc hx hq hbel
      generalize bs.length = m at *
      by_cases h1 : id = x
      · subst h1
        have h2 : (id == id) = true := by simp
        go_wp2_with fail
        go_ret
        exact ⟨ret_int (by simpa using HQ.out), HB.out⟩
      · have h2 : (id == x) = false := by simp [h1]
        have H1 := kide h1
        clear h1
        go_wp2_with fail
        go_roundw
        case rel => exact ⟨k + 1, by omega, by go_num, (if_neg H1.out).symm.trans HQ.out, HB.out⟩
        case measure => simp [intOf]; omega
    · have e : k = xs.length := by omega
      rw [e, List.drop_of_length_le (by simp), stR] at hq
      have HQ := kide hq
      clear hq
      go_wp2_with fail
      go_ret
      exact ⟨ret_int HQ.out, hbel⟩

end Go.Proofs.Ytpfmnfakaeebdaa
