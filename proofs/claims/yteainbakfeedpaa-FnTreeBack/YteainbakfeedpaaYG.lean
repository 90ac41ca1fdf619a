/- A drawn text of a tree: some text, of bounded length. -/
import Derived.Test.YteainbakfeedpaaYE
import Derived.Deep.RegionWith
namespace Go.Proofs.Yteainbakfeedpaa
set_option linter.unusedVariables false
set_option linter.unusedSimpArgs false
open Go.RowKit

def l6d : List ByteArray := [⟨#[41]⟩, ⟨#[40]⟩, ⟨#[32, 98]⟩, ⟨#[9]⟩, ⟨#[59]⟩, ⟨#[10]⟩]
def l8d : List ByteArray := [⟨#[]⟩, ⟨#[32]⟩, ⟨#[59, 97]⟩, ⟨#[97, 32, 98]⟩, ⟨#[97, 41]⟩, ⟨#[97, 59, 98]⟩, ⟨#[40, 97, 59, 41, 10, 41]⟩, ⟨#[97, 59, 1]⟩]
theorem l6d_le : ∀ q ∈ l6d, q.size ≤ 2 := by decide
theorem l8d_le : ∀ q ∈ l8d, q.size ≤ 6 := by decide
theorem ext_le (t : ByteArray) (i j : Nat) {n : Nat} (h : t.size ≤ n) : (t.extract i j).size ≤ n := by
  simp [ByteArray.size_extract]
  omega
theorem lit_new (l : List ByteArray) (t : TypeId) (W : World) (y : Nat) (hy : y < l.length) : (W.alloc (Obj.cells (l.map Value.string).toArray t)).cell? ⟨W.heap.size, y, none⟩ = some (.string (l.getD y .empty)) := lit_str l (heap_alloc_new _ _) y hy
theorem lit_get (l : List ByteArray) (y : Nat) (hy : y < l.length) : (l.map Value.string).toArray[y]? = some (.string (l.getD y .empty)) := by simp [List.getD, hy]
theorem dw_undrew {β : Nat} {w w' : World} (h : Dw β w.drew w') : Dw β w w' := ⟨h.os, h.tape, h.output, h.size, h.block⟩
theorem dw_chain {β : Nat} {w w1 w2 : World} (h : Below w.heap.size w w1) (hβ : w.heap.size ≤ β) (hd : Dw β w1 w2) : Below w.heap.size w w2 := h.trans (hd.below hβ h.size)

def RetGt (w : World) (e : Ending) (w' : World) : Prop := ∃ s : ByteArray, e = .returned (.string s) ∧ s.size ≤ 200000 ∧ Below w.heap.size w w'

set_option maxHeartbeats 1000000 in
set_option maxRecDepth 100000 in
theorem chain_any (n : Nat) (hn : n ≤ 1000) (w : World) : Calls Try.prog 35 #[.int .i64 (n : Int)] w fun e w' => (∃ s : ByteArray, e = .returned (.string s) ∧ s.size ≤ 3000) ∧ w' = w := by
  go_enter Try.func35, Try.ntmps35
  go_wp2_with fail
  go_loop [3, 4] (fun sv i => ∃ (m : Nat) (t : ByteArray), i = .int .i64 m ∧ sv = .string t ∧ m ≤ n ∧ t.size = 1 + 2 * m) (fun _ i => n - (intOf i).toNat)
  case atStart => exact ⟨0, ⟨#[97]⟩, rfl, rfl, by omega, rfl⟩
  case round =>
    obtain ⟨m, t, rfl, rfl, hm, ht⟩ := hrel
    have htz : (t.size : Int) ≤ 3000 := by omega
    have HT := hidE ht
    clear ht
    by_cases h0 : m < n
    · have hmi : (m : Int) < (n : Int) := by omega
      go_wp2
      go_round
      case rel => exact ⟨m + 1, _, by go_num, rfl, by omega, by rw [ByteArray.size_append, ByteArray.size_append, HT.out]; show 1 + (1 + 2 * m) + 1 = _; omega⟩
      case measure => simp [intOf]; omega
    · have hmi : ¬ (m : Int) < (n : Int) := by omega
      go_wp2
      go_ret
      exact ⟨⟨t, rfl, by have := HT.out; omega⟩, rfl⟩

def strSz : Value → Nat
  | .string t => t.size
  | _ => 0

theorem belowI (β : Nat) (a : Option Addr) (c : Nat) (bs : List Nat) (w : World) (m : Int) (h0 : 0 ≤ m) (h5 : m ≤ 5) (hr : Rr w β a c bs) :
    Calls Try.prog 34 #[.pointer (some ⟨β, 0, none⟩), .int .i64 m] w fun e w' => ∃ x : Nat, e = .returned (.int .i64 (x : Int)) ∧ x ≤ 4 ∧ Rr w' β a c bs ∧ Dw β w w' := by
  obtain ⟨n, rfl⟩ := Int.eq_ofNat_of_zero_le h0
  refine (below_any n (by omega) β a c bs w hr).mono ?_
  rintro e w' ⟨x, rfl, hx, hr', hd⟩
  exact ⟨x, rfl, by omega, hr', hd⟩

set_option maxHeartbeats 2000000 in
set_option maxRecDepth 100000 in
theorem drawRead_any (a : Option Addr) (c : Nat) (bs : List Nat) (w : World) (h : RdB w a bs) :
    Calls Try.prog 14 #[.slice a bs.length c] w (RetGt w) := by
  go_enter Try.func14, Try.ntmps14
  go_wp2_with fail
  refine (rdOpen_any a c bs _ h).mono ?_
  rintro e w1 ⟨β, rfl, hβ, hr1, hb1⟩
  have hr1' := hr1
  obtain ⟨p, hp, hk, hrb, hn⟩ := hr1'
  obtain ⟨k0, k1⟩ := hk.cells
  have hbl := hrb.1
  clear hk hrb hn
  have key := hidE (fun (m : Int) (h0 : 0 ≤ m) (h5 : m ≤ 5) => belowI β a c bs w1 m h0 h5 hr1)
  go_wp2_with fail
  all_goals
    refine Calls.mono (key.out _ (by omega) (by omega)) ?_
    rintro e w2 ⟨x, rfl, hx4, hr2, hd2⟩
    have hgr := grow_any β a c bs (1 + x) w2 (by omega) hr2
    have hxc : ((1 + x : Nat) : Int) = 1 + (x : Int) := by omega
    rw [hxc] at hgr
    have HGR := hidE hgr
    have hgz := (gsz_le (1 + x) (by omega)).2
    clear hgr hxc
    have B2 := dw_chain hb1 hβ hd2
    clear hr1 hb1 hd2 k0 k1 key
    go_wp2_with fail
    refine Calls.mono HGR.out ?_
    rintro e w3 ⟨s, rfl, hs, hr3, hd3⟩
    have B3 := dw_chain B2 hβ hd3
    have hsz : s.size ≤ 60000 := by omega
    clear hr2 B2 hd3 HGR hgz hs
    go_wp2_with fail
    refine (below_any 12 (by omega) β a c bs _ hr3).mono ?_
    rintro e w4 ⟨y, rfl, hy, hr4, hd4⟩
    have B4 := dw_chain B3 hβ hd4
    clear hr3 B3 hd4
    have hβ4 := hr4.lt
    have hsi : (s.size : Int) ≤ 60000 := by omega
    by_cases y0 : y = 0
    · subst y0
      go_wp2_with fail
      refine (below_any (s.size + 1) (by omega) β a c bs _ hr4).mono ?_
      rintro e w5 ⟨i, rfl, hi, hr5, hd5⟩
      have B5 := dw_chain B4 hβ hd5
      have hii : (i : Int) ≤ (s.size : Int) := by omega
      have hβ5 := hr5.lt
      clear hr4 B4 hd5
      have hr5d : Rr w5.drew β a c bs := hr5
      go_wp2_with fail
      go_region_with (first
        | (go_at_call 34; refine (below_any 6 (by omega) β a c bs _ ?_).mono ?_; exact hr5d; rintro e w6 ⟨z, rfl, hz, hr6, hd6⟩; have B6 := dw_chain B5 hβ (dw_undrew hd6); have hz6 : z < 6 := (by omega); have hg6 : (#[Value.string { data := #[41] }, Value.string { data := #[40] }, Value.string { data := #[32, 98] }, Value.string { data := #[9] }, Value.string { data := #[59] }, Value.string { data := #[10] }] : Array Value)[z]? = some (.string (l6d.getD z .empty)) := lit_get l6d z hz6; have hq := mem_getD l6d 2 z l6d_le hz6; clear hz6; generalize l6d.getD z .empty = q at *; have hzi : (z : Int) < 6 := (by omega); have hqi : (q.size : Int) ≤ 2 := (by omega))
        | (go_at_call 34; refine (below_any 6 (by omega) β a c bs _ ?_).mono ?_; exact hr5d.later (Ba (Below.refl _ _) _); rintro e w6 ⟨z, rfl, hz, hr6, hd6⟩; have B6 := dw_chain (Ba B5 _) hβ (dw_undrew hd6); have hz6 : z < 6 := (by omega); have hc6 := lit_str l6d ((dw_undrew hd6).row hβ5) z hz6; have hq := mem_getD l6d 2 z l6d_le hz6; clear hz6; generalize l6d.getD z .empty = q at *; have hzi : (z : Int) < 6 := (by omega); have hqi : (q.size : Int) ≤ 2 := (by omega)))
      all_goals
        have hSz : (s.extract 0 i ++ q ++ s.extract i s.size).size ≤ 200000 := by
          rw [ByteArray.size_append, ByteArray.size_append]
          have e1 := ext_le s 0 i hsz
          have e2 := ext_le s i s.size hsz
          omega
        go_wp2_with fail
        go_ret
        first | exact ⟨_, rfl, hSz, B6⟩ | exact ⟨_, rfl, hSz, Ba B6 _⟩
    by_cases y1 : y = 1
    · subst y1
      go_wp2_with fail
      refine (below_any (s.size + 1) (by omega) β a c bs _ hr4).mono ?_
      rintro e w5 ⟨i, rfl, hi, hr5, hd5⟩
      have B5 := dw_chain B4 hβ hd5
      have hii : (i : Int) ≤ (s.size : Int) := by omega
      go_wp2_with fail
      go_ret
      exact ⟨_, rfl, ext_le _ _ _ (by omega), B5⟩
    by_cases y2 : y = 2
    · subst y2
      go_wp2_with fail
      refine (below_any 3 (by omega) β a c bs _ hr4).mono ?_
      rintro e w5 ⟨i, rfl, hi, hr5, hd5⟩
      have B5 := dw_chain B4 hβ hd5
      have hc := chain_any (100 + i) (by omega) w5
      have hcc : ((100 + i : Nat) : Int) = 100 + (i : Int) := by omega
      rw [hcc] at hc
      have HC := hidE hc
      clear hr4 hr5 hd5 B4 hc hcc
      go_wp2_with fail
      refine Calls.mono HC.out ?_
      rintro e w6 ⟨⟨t, rfl, ht⟩, rfl⟩
      go_wp2_with fail
      go_ret
      exact ⟨t, rfl, by omega, B5⟩
    by_cases y3 : y = 3
    · subst y3
      go_wp2_with fail
      refine (below_any 3 (by omega) β a c bs _ hr4).mono ?_
      rintro e w5 ⟨i, rfl, hi, hr5, hd5⟩
      have B5 := dw_chain B4 hβ hd5
      clear hr4 hr5 hd5 B4
      go_wp2_with fail
      go_loop [4, 6] (fun sv i => ∃ (m : Nat) (t : ByteArray), i = .int .i64 m ∧ sv = .string t ∧ t.size + 2 * m ≤ 5000) (fun _ i => (intOf i).toNat)
      case atStart => exact ⟨1998 + i, ⟨#[40]⟩, by simp, rfl, by show 1 + 2 * (1998 + i) ≤ 5000; omega⟩
      case round =>
        obtain ⟨m, t, rfl, rfl, hm⟩ := hrel
        have htz : (t.size : Int) ≤ 5000 := by omega
        by_cases h0 : m = 0
        · subst h0
          clear hm
          go_wp2_with fail
          go_ret
          exact ⟨_, rfl, by rw [ByteArray.size_append]; show t.size + 1 ≤ 200000; omega, B5⟩
        · obtain ⟨m', rfl⟩ : ∃ m', m = m' + 1 := ⟨m - 1, by omega⟩
          have hm0 : (0 : Int) < (m' : Int) + 1 := by omega
          go_wp2
          go_round
          case rel => exact ⟨m', _, by go_num, rfl, by rw [ByteArray.size_append]; show t.size + 2 + 2 * m' ≤ 5000; omega⟩
          case measure => simp [intOf]
    by_cases y4 : y = 4
    · subst y4
      go_wp2_with fail
      refine (below_any 8 (by omega) β a c bs _ (hr4.later (Ba (Below.refl _ _) _))).mono ?_
      rintro e w5 ⟨z, rfl, hz, hr5, hd5⟩
      have hz8 : z < 8 := by omega
      have hcell := lit_str l8d (hd5.row hβ4) z hz8
      have hq := mem_getD l8d 6 z l8d_le hz8
      generalize l8d.getD z .empty = q at *
      have hzi : (z : Int) < 8 := by omega
      have B5 := dw_chain (Ba B4 _) hβ hd5
      clear hd5 hr5 hr4
      go_wp2_with fail
      go_ret
      exact ⟨q, rfl, by omega, B5⟩
    by_cases y5 : y = 5
    · subst y5
      go_wp2_with fail
      go_loopw [4] (fun sv wr => ∃ t : ByteArray, sv = .string t ∧ t.size ≤ 60000 ∧ Rr wr β a c bs ∧ Below w.heap.size w wr) (fun sv _ => 30000 - strSz sv)
      case atStart => exact ⟨s, rfl, hsz, hr4, B4⟩
      case round =>
        obtain ⟨t, rfl, hts, hrl, hbl'⟩ := hrel
        have htz : (t.size : Int) ≤ 60000 := by omega
        go_wp2_with fail
        refine (below_any 2 (by omega) β a c bs _ hrl).mono ?_
        rintro e wq ⟨z, rfl, hz, hrq, hdq⟩
        have Bq := dw_chain hbl' hβ hdq
        clear hrl hbl' hdq
        by_cases hlt : t.size < 20000 + z
        · have hti : (t.size : Int) < 20000 + (z : Int) := by omega
          go_wp2_with fail
          go_roundw
          case rel => exact ⟨_, rfl, by rw [ByteArray.size_append]; show t.size + 50 ≤ 60000; omega, hrq, Bq⟩
          case measure => simp [strSz, ByteArray.size_append]; show 30000 - (t.size + 50) < _; omega
        · have hti : ¬ (t.size : Int) < 20000 + (z : Int) := by omega
          go_wp2_with fail
          go_ret
          exact ⟨t, rfl, by omega, Bq⟩
    · have j0 : ((y : Int) == 0) = false := beq_eq_false_iff_ne.2 (by omega)
      have j1 : ((y : Int) == 1) = false := beq_eq_false_iff_ne.2 (by omega)
      have j2 : ((y : Int) == 2) = false := beq_eq_false_iff_ne.2 (by omega)
      have j3 : ((y : Int) == 3) = false := beq_eq_false_iff_ne.2 (by omega)
      have j4 : ((y : Int) == 4) = false := beq_eq_false_iff_ne.2 (by omega)
      have j5 : ((y : Int) == 5) = false := beq_eq_false_iff_ne.2 (by omega)
      go_wp2_with fail
      go_ret
      exact ⟨s, rfl, by omega, B4⟩

end Go.Proofs.Yteainbakfeedpaa
