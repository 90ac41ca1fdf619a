/- A word that is an answer: kept, marked. -/
import Derived.Test.YtpkdoanccjchdaaGreatDoorEVM
namespace Go.Proofs.YtpkdoanccjchdaaGreatDoor
set_option linter.unusedVariables false
set_option linter.unusedSimpArgs false
open Go.RowKit

/-- A word in new memory, below a bound. -/
def Nh (w : World) (lo hi : Nat) (a : Option Addr) (xs : List Nat) : Prop := Nw w lo a xs ∧ ∀ x, a = some x → x.block < hi

theorem Nw.nh {w : World} {lo : Nat} {a : Option Addr} {xs : List Nat} (h : Nw w lo a xs) : Nh w lo w.heap.size a xs := by
  refine ⟨h, fun x e => ?_⟩
  rcases h with ⟨-, h2⟩ | ⟨g, cur, h1, -, h3, -⟩
  · obtain ⟨-, -, cur, hc⟩ := h2 x e
    exact lt_of_block hc
  · rw [h1] at e; cases e; exact lt_of_block h3

theorem Nh.out {w w' : World} {lo hi B1 B2 : Nat} {a : Option Addr} {xs : List Nat} (h : Nh w lo hi a xs) (ho : Out B1 B2 w w') (hd : hi ≤ B1 ∨ B2 ≤ lo) : Nh w' lo hi a xs := by
  obtain ⟨h1, h2⟩ := h
  refine ⟨?_, h2⟩
  rcases h1 with ⟨e, h3⟩ | ⟨g, cur, e, h3, h4, h5⟩
  · refine .inl ⟨e, fun x ex => ?_⟩
    obtain ⟨p1, p2, cur, p3⟩ := h3 x ex
    have := h2 x ex
    exact ⟨p1, p2, cur, by rw [ho.2.2.2.2 x.block (lt_of_block p3) (by omega)]; exact p3⟩
  · have := h2 _ e
    simp only [] at this
    exact .inr ⟨g, cur, e, h3, by rw [ho.2.2.2.2 g (lt_of_block h4) (by omega)]; exact h4, h5⟩

theorem Nh.later {w w' : World} {lo hi : Nat} {a : Option Addr} {xs : List Nat} (h : Nh w lo hi a xs) (hb : Below w.heap.size w w') : Nh w' lo hi a xs := ⟨h.1.later hb, h.2⟩

theorem Nh.rd {w : World} {lo hi : Nat} {a : Option Addr} {xs : List Nat} (h : Nh w lo hi a xs) (hl : xs.length ≤ 1048576) (hx : ∀ x ∈ xs, x < 18446744073709551616) : Rd w a xs := h.1.rd hl hx

set_option maxHeartbeats 1000000 in
theorem markUint64S_row (g c n : Nat) (cur : Array Value) (w : World) (hh : w.heap[g]? = some (.cells cur 140 (0, 0))) (hc : ∀ i, i < n → ∃ y : Int, cur[i]? = some (.int .u64 y)) (hn : n ≤ 1048576) :
    Calls Tryz.prog 75 #[.slice (some ⟨g, 0, none⟩) n c, .int .i64 1] w fun e w' => e = .returned (.int .i64 ((1 + n : Nat) : Int)) ∧ (∃ cur', w'.heap[g]? = some (.cells cur' 140 (0, 0)) ∧ ∀ i, i < n → cur'[i]? = some (.int .u64 ((1 + i : Nat) : Int))) ∧ w.grownBy w' (some g) := by
  go_enter Tryz.func75, Tryz.ntmps75
  go_wp2_with fail
  go_loopw [1, 5] (fun q i wr => ∃ (j : Nat) (cu : Array Value), j ≤ n ∧ i = .int .i64 (j : Int) ∧ q = .int .i64 ((1 + j : Nat) : Int) ∧ wr.heap[g]? = some (.cells cu 140 (0, 0)) ∧ (∀ i, i < n → ∃ y : Int, cu[i]? = some (.int .u64 y)) ∧ (∀ i, i < j → cu[i]? = some (.int .u64 ((1 + i : Nat) : Int))) ∧ w.grownBy wr (some g)) (fun _ i _ => n - (intOf i).toNat)
  case atStart => exact ⟨0, cur, Nat.zero_le _, rfl, rfl, hh, hc, fun i hi => by omega, ⟨rfl, rfl, rfl, Nat.le_refl _, fun _ _ _ => rfl⟩⟩
  case round =>
    obtain ⟨j, cu, hj, rfl, rfl, hh', hc', hm', hg⟩ := hrel
    have HG := kide hg
    have HC := kide hc'
    have HM := kide hm'
    by_cases hlt : j < n
    · obtain ⟨y0, hy0⟩ := hc' j hlt
      have q0 : wr.cell? ⟨g, j, none⟩ = some (.int .u64 y0) := by rw [cell_of_row wr g j _ _ _ hh']; exact hy0
      have r0 := frozen_of_row wr g j _ _ hh'
      have hsz : j < cu.size := by
        have := (Array.getElem?_eq_some_iff.1 hy0).1
        exact this
      have HS := kide (heap_setCell_same wr g j _ _ (.int .u64 ((1 + j : Nat) : Int)) hh')
      generalize hK : 1 + j = K at *
      have HK := kide hK
      have hKb : K ≤ 8796093022208 := by omega
      have i0 : (j : Int) < (n : Int) := by omega
      clear hh' hc' hm' hg hK hh hc hy0
      go_wp2_with fail
      go_roundw
      case rel =>
        refine ⟨j + 1, _, by omega, by go_num, by rw [show 1 + (j + 1) = K + 1 by have := HK.out; omega]; first | go_num | (simp; done), HS.out, fun i hi => ?_, fun i hi => ?_, grow_set HG.out j _⟩
        · by_cases hij : i = j
          · subst hij; exact ⟨(K : Int), by rw [Array.getElem?_setIfInBounds_self_of_lt hsz]⟩
          · obtain ⟨y, hy⟩ := HC.out i hi
            exact ⟨y, by rw [Array.getElem?_setIfInBounds_ne (fun h => hij h.symm)]; exact hy⟩
        · by_cases hij : i = j
          · subst hij; rw [Array.getElem?_setIfInBounds_self_of_lt hsz, HK.out]
          · rw [Array.getElem?_setIfInBounds_ne (fun h => hij h.symm)]; exact HM.out i (by omega)
      case measure => simp [intOf]; omega
    · have e : j = n := by omega
      subst e
      have HH := kide hh'
      clear hh' hc' hm' hg
      go_wp2_with fail
      go_ret
      exact ⟨rfl, ⟨cu, HH.out, HM.out⟩, HG.out⟩

theorem marks_get (n i : Nat) (h : i < n) : (marks 1 n).getD i 0 = 1 + i := by simp [marks, List.getD, h]

theorem markBits_nh (W : Int) (a : Option Addr) (c lo hi : Nat) (xs : List Nat) (w : World) (hl : xs.length ≤ 1048576) (h : Nh w lo hi a xs) :
    Calls Tryz.prog 41 #[.agg #[.int .i64 W, .slice a xs.length c], .int .i64 1] w fun e w' => e = .returned (.int .i64 ((1 + xs.length : Nat) : Int)) ∧ Nh w' lo hi a (marks 1 xs.length) ∧ Out lo hi w w' := by
  obtain ⟨h1, h2⟩ := h
  have hb0 : Below w.heap.size w (w.alloc (Obj.cells #[Value.int IntKind.i64 W, Value.slice a xs.length c] 61)) := (Below.refl _ _).alloc (Nat.le_refl _) _
  rcases h1 with ⟨e, h3⟩ | ⟨g, cur, e, h3, h4, h5⟩
  · subst e
    refine (markBits_nil W a c 1 w).mono ?_
    rintro en w' ⟨rfl, hb⟩
    refine ⟨rfl, ⟨.inl ⟨by simp [marks], fun x ex => ?_⟩, h2⟩, Out.below hb⟩
    obtain ⟨p1, p2, cu, p3⟩ := h3 x ex
    exact ⟨p1, p2, cu, by rw [hb.block _ (lt_of_block p3)]; exact p3⟩
  · subst e
    have hgh := h2 _ rfl
    simp only [] at hgh
    have H2 := kide h2
    have HC := kide (markUint64S_row g c xs.length cur _ (by rw [hb0.block g (lt_of_block h4)]; exact h4) (fun i hi => ⟨_, h5 i hi⟩) hl)
    have B0 := kide hb0
    clear hb0 h2
    go_enter Tryz.func41, Tryz.ntmps41
    go_wp2_with fail
    refine Calls.mono HC.out ?_
    rintro en w1 ⟨rfl, ⟨cur', hh, hm⟩, hg⟩
    have HO := kide ((Out.below (B1 := lo) (B2 := hi) B0.out).trans (Out.grown hg h3 hgh))
    have HN : Hid (Nh w1 lo hi (some ⟨g, 0, none⟩) (marks 1 xs.length)) := ⟨.inr ⟨g, cur', rfl, h3, hh, fun i hi => by rw [marks_len] at hi; rw [marks_get _ _ hi]; exact hm i hi⟩, H2.out⟩
    clear hh hm hg HC
    go_wp2_with fail
    go_ret
    exact ⟨rfl, HN.out, HO.out⟩

end Go.Proofs.YtpkdoanccjchdaaGreatDoor
