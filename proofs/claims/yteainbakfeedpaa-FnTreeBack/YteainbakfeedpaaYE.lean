/- Drawn texts of trees. -/
import Derived.Test.YteainbakfeedpaaYD
import Derived.Test.YteainbakfeedpaaTF
import Derived.Deep.RegionHeld3
namespace Go.Proofs.Yteainbakfeedpaa
set_option linter.unusedVariables false
set_option linter.unusedSimpArgs false
open Go.RowKit

/-- How long a drawn text may be. -/
def gsz : Nat → Nat
  | 0 => 4
  | d + 1 => 4 * gsz d + 26

def RetGr (n : Nat) (β : Nat) (a : Option Addr) (c : Nat) (bs : List Nat) (w : World) (e : Ending) (w' : World) : Prop := ∃ s : ByteArray, e = .returned (.string s) ∧ s.size ≤ n ∧ Rr w' β a c bs ∧ Dw β w w'

theorem hidE {p : Prop} (h : p) : Hid p := h

theorem lit_str {w : World} {b : Nat} {t : TypeId} (l : List ByteArray) (h : w.heap[b]? = some (.cells (l.map Value.string).toArray t (0, 0))) (y : Nat) (hy : y < l.length) : w.cell? ⟨b, y, none⟩ = some (.string (l.getD y .empty)) := by
  rw [cell_of_row w b y _ _ _ h]
  simp [List.getD, hy]
theorem mem_getD (l : List ByteArray) (n y : Nat) (hl : ∀ q ∈ l, q.size ≤ n) (hy : y < l.length) : (l.getD y .empty).size ≤ n := by
  have e : l.getD y .empty = l[y] := by simp [List.getD, hy]
  rw [e]
  exact hl _ (List.getElem_mem hy)

def l8 : List ByteArray := [⟨#[97]⟩, ⟨#[98, 49]⟩, ⟨#[35, 98, 48, 49]⟩, ⟨#[43]⟩, ⟨#[120, 46, 121]⟩, ⟨#[49, 50]⟩, ⟨#[99, 97, 116]⟩, ⟨#[33]⟩]
def l5 : List ByteArray := [⟨#[32]⟩, ⟨#[32]⟩, ⟨#[10]⟩, ⟨#[32, 32]⟩, ⟨#[32, 59, 122, 32, 40, 10]⟩]
theorem l8_le : ∀ q ∈ l8, q.size ≤ 4 := by decide
theorem l5_le : ∀ q ∈ l5, q.size ≤ 6 := by decide

theorem Rr.lt {w : World} {β : Nat} {a : Option Addr} {c : Nat} {bs : List Nat} (h : Rr w β a c bs) : β < w.heap.size := by obtain ⟨p, _, hk, _⟩ := h; exact hk.lt

theorem gsz_le : ∀ d, d ≤ 6 → 4 ≤ gsz d ∧ gsz d ≤ 60000 := by
  intro d hd
  match d, hd with
  | 0, _ => exact ⟨by decide, by decide⟩
  | 1, _ => exact ⟨by decide, by decide⟩
  | 2, _ => exact ⟨by decide, by decide⟩
  | 3, _ => exact ⟨by decide, by decide⟩
  | 4, _ => exact ⟨by decide, by decide⟩
  | 5, _ => exact ⟨by decide, by decide⟩
  | 6, _ => exact ⟨by decide, by decide⟩

set_option maxHeartbeats 1000000 in
set_option maxRecDepth 100000 in
theorem grow_any (β : Nat) (a : Option Addr) (c : Nat) (bs : List Nat) (d : Nat) : ∀ (w : World), d ≤ 6 → Rr w β a c bs →
    Calls Try.prog 33 #[.pointer (some ⟨β, 0, none⟩), .int .i64 (d : Int)] w (RetGr (gsz d) β a c bs w) := by
  induction d with
  | zero =>
    intro w hd hr
    go_enter Try.func33, Try.ntmps33
    go_wp2_with fail
    refine (below_any 8 (by omega) β a c bs _ (hr.later (Ba (Below.refl _ _) _))).mono ?_
    rintro e w2 ⟨y, rfl, hy, hr2, hd2⟩
    have hy8 : y < 8 := by omega
    have hcell := lit_str l8 (hd2.row hr.lt) y hy8
    have hsz := mem_getD l8 4 y l8_le hy8
    generalize l8.getD y .empty = q at *
    have hyi : (y : Int) < 8 := by omega
    have HD := hidE (Dw.trans (Dw.of (β := β) ((Below.refl w.heap.size w).alloc (Nat.le_refl _) _)) hd2)
    clear hd2
    go_wp2_with fail
    go_ret
    exact ⟨q, rfl, hsz, hr2, HD.out⟩
  | succ d ih =>
    intro w hd hr
    have IH := hidE ih
    have hg := gsz_le d (by omega)
    have hG : gsz (d + 1) = 4 * gsz d + 26 := rfl
    rw [hG]
    clear ih hG
    generalize gsz d = G at *
    have h0 : (((d : Int) + 1) == 0) = false := beq_eq_false_iff_ne.2 (by omega)
    go_enter Try.func33, Try.ntmps33
    go_wp2_with fail
    refine (once_any 3 (by omega) (by omega) β a c bs _ hr).mono ?_
    rintro e w1 ⟨x, rfl, hr1, hd1⟩
    cases x with
    | true =>
      go_wp2_with fail
      refine (below_any 8 (by omega) β a c bs _ (hr1.later (Ba (Below.refl _ _) _))).mono ?_
      rintro e w2 ⟨y, rfl, hy, hr2, hd2⟩
      have hy8 : y < 8 := by omega
      have hcell := lit_str l8 (hd2.row hr1.lt) y hy8
      have hsz := mem_getD l8 4 y l8_le hy8
      generalize l8.getD y .empty = q at *
      have hyi : (y : Int) < 8 := by omega
      have HD := hidE (hd1.trans (Dw.trans (Dw.of (β := β) ((Below.refl w1.heap.size w1).alloc (Nat.le_refl _) _)) hd2))
      clear hd2 hd1
      go_wp2_with fail
      go_ret
      exact ⟨q, rfl, by omega, hr2, HD.out⟩
    | false =>
      go_wp2_with fail
      refine (below_any 5 (by omega) β a c bs _ hr1).mono ?_
      rintro e w2 ⟨y, rfl, hy, hr2, hd2⟩
      have hy5 : y < 5 := by omega
      have HD2 := hidE (hd1.trans hd2)
      clear hd1 hd2
      go_wp2_with fail
      go_loopw [5, 6] (fun o i wr => ∃ (k : Nat) (s : ByteArray), i = .int .i64 (k : Int) ∧ o = .string s ∧ k ≤ 4 ∧ s.size + k * (G + 6) ≤ 4 * G + 25 ∧ Rr wr β a c bs ∧ Dw β w wr) (fun _ i _ => (intOf i).toNat)
      case atStart => exact ⟨y, _, rfl, rfl, by omega, by have h1 : (⟨#[40]⟩ : ByteArray).size = 1 := rfl; have h2 : y * (G + 6) ≤ 4 * (G + 6) := Nat.mul_le_mul_right _ (by omega); rw [h1]; omega, hr2, HD2.out⟩
      case round =>
        obtain ⟨k, s, rfl, rfl, hk, hsk, hrr, hdd⟩ := hrel
        have hss : s.size ≤ 4 * G + 25 := by omega
        by_cases hk0 : 0 < k
        · have hki : (0 : Int) < (k : Int) := by omega
          have HDD := hidE hdd
          clear hdd
          go_wp2_with fail
          refine Calls.mono (IH.out _ (by omega) hrr) ?_
          rintro e w3 ⟨s3, rfl, hs3, hr3, hd3⟩
          have HD3 := hidE (HDD.out.trans hd3)
          clear hd3 hrr
          go_wp2_with fail
          refine (below_any 5 (by omega) β a c bs _ (hr3.later (Ba (Below.refl _ _) _))).mono ?_
          rintro e w4 ⟨z, rfl, hz, hr4, hd4⟩
          have hz5 : z < 5 := by omega
          have hcell := lit_str l5 (hd4.row hr3.lt) z hz5
          have hsz := mem_getD l5 6 z l5_le hz5
          generalize l5.getD z .empty = q at *
          have hzi : (z : Int) < 5 := by omega
          have HD4 := hidE (HD3.out.trans (Dw.trans (Dw.of (β := β) ((Below.refl w3.heap.size w3).alloc (Nat.le_refl _) _)) hd4))
          have hkm : k * (G + 6) = (k - 1) * (G + 6) + (G + 6) := by
            obtain ⟨k', rfl⟩ : ∃ k', k = k' + 1 := ⟨k - 1, by omega⟩
            rw [Nat.succ_mul]; rfl
          have HKM := hidE hkm
          have hs1 : (s ++ s3).size ≤ 300000 := by rw [ByteArray.size_append]; omega
          have hs2 : (s ++ s3).size = s.size + s3.size := ByteArray.size_append
          have HS2 := hidE hs2
          clear hd4 hkm hs2
          go_wp2_with fail
          go_roundw
          case rel =>
            refine ⟨k - 1, s ++ s3 ++ q, by go_num, rfl, by omega, ?_, hr4, HD4.out⟩
            have h1 := HKM.out
            have h2 := HS2.out
            rw [ByteArray.size_append, h2]
            omega
          case measure => simp [intOf]; omega
        · have hk00 : k = 0 := by omega
          subst hk00
          go_wp2_with fail
          go_ret
          refine ⟨_, rfl, ?_, hrr, hdd⟩
          rw [ByteArray.size_append]
          have h1 : (⟨#[41]⟩ : ByteArray).size = 1 := rfl
          omega

end Go.Proofs.Yteainbakfeedpaa
