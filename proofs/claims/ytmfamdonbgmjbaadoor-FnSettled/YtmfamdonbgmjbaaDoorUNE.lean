/- Unit, on the given side. -/
import Derived.Test.YtmfamdonbgmjbaaDoorZGAD
import Derived.Test.YtmfamdonbgmjbaaDoorZGAG
namespace Go.Proofs.YtmfamdonbgmjbaaDoor
set_option linter.unusedVariables false
set_option linter.unusedSimpArgs false
open Go.RowKit

set_option maxHeartbeats 8000000 in
set_option maxRecDepth 100000 in
theorem specUnit_any (S : Int) (ca sa : Option Addr) (cc nc sc ns : Nat) (xs : List Iw) (set : List Int) (w : World) (hS : in64 S) (hc : RdII w ca xs) (hnc : xs.length = nc) (hs : RdI w sa set) (hns : set.length = ns) (hs0 : sa = none → sc = 0) (hcap : ns ≤ sc) :
    Calls Tryd.prog 8 #[.agg #[.int .i64 S, .slice ca nc cc], .slice sa ns sc] w (RetUn (unitR S (xs.map Iw.ks) set) w) := by
  have hb0 : Below w.heap.size w (w.alloc (Obj.cells #[Value.int .i64 S, Value.slice ca nc cc] 29)) := (Below.refl _ _).alloc (Nat.le_refl _) _
  have HCN := kide (specCnf_any S ca cc nc xs _ (hc.later hb0) hnc)
  have X0 := kide (Bz.new w #[Value.int .i64 S, Value.slice ca nc cc] 29)
  have NIL : Hid (∀ u, Below w.heap.size w u → RetUn ([], false) w (.returned (.tuple #[.slice (some ⟨u.heap.size, 0, none⟩) 0 0, .bool false])) (u.alloc (Obj.cells #[] 2))) := fun u hu => ⟨_, rfl, OI.empty u _ hu.size, hu.trans (((Below.refl _ _).alloc (Nat.le_refl _) _).mono hu.size)⟩
  obtain ⟨R, hR⟩ : ∃ R, unitR S (xs.map Iw.ks) set = R := ⟨_, rfl⟩
  rw [hR]
  unfold unitR at hR
  have HC := kide hc
  have HST := kide hs
  have HNC := kide hnc
  have HNS := kide hns
  have HS0 := kide hs0
  have B0 := kide hb0
  have hsl := hs.1
  rw [hns] at hsl
  cases hk : cnfR S (xs.map Iw.ks) with
  | false =>
    rw [hk] at HCN hR
    rw [if_neg (by simp)] at hR
    subst hR
    clear hc hnc hs hns hs0 hb0 hk
    go_enter Tryd.func8, Tryd.ntmps8
    go_wp2_with fail
    refine Calls.mono HCN.out ?_
    rintro e u ⟨rfl, hbu⟩
    have BU := kide (B0.out.trans (hbu.mono B0.out.size))
    clear hbu
    go_wp2_with fail
    exact bodyPost_ret (v := .tuple #[.slice (some ⟨u.heap.size, 0, none⟩) 0 0, .bool false]) (by simp [results, Tryd.results8, go_sem]) rfl (NIL.out _ BU.out)
  | true =>
    rw [hk] at HCN hR
    obtain ⟨⟨hS0, hS4⟩, -, -⟩ := cnfR_in hk
    obtain ⟨Sn, rfl⟩ : ∃ Sn : Nat, S = (Sn : Int) := ⟨S.toNat, by omega⟩
    have HK := kide hk
    by_cases hgt : (ns : Int) > (Sn : Int)
    · rw [if_neg (by
        rintro ⟨-, h⟩
        have := (setR_tk.1 h).len
        rw [hns] at this
        omega)] at hR
      subst hR
      clear hc hnc hs hns hs0 hb0 hk
      go_enter Tryd.func8, Tryd.ntmps8
      go_wp2_with fail
      refine Calls.mono HCN.out ?_
      rintro e u ⟨rfl, hbu⟩
      have BU := kide (B0.out.trans (hbu.mono B0.out.size))
      have d0 := (X0.out.later hbu).cell 0
      clear hbu
      go_wp2_with fail
      exact bodyPost_ret (v := .tuple #[.slice (some ⟨u.heap.size, 0, none⟩) 0 0, .bool false]) (by simp [results, Tryd.results8, go_sem]) rfl (NIL.out _ BU.out)
    have hle : ns ≤ Sn := by omega
    clear hc hnc hs hns hs0 hb0 hk
    have HR := kide hR
    clear hR
    go_enter Tryd.func8, Tryd.ntmps8
    go_wp2_with fail
    refine Calls.mono HCN.out ?_
    rintro e u ⟨rfl, hbu⟩
    have BU := kide (B0.out.trans (hbu.mono B0.out.size))
    have XU := kide (X0.out.later hbu)
    have d0 := (X0.out.later hbu).cell 0
    clear hbu
    go_wp2_with fail
    clear d0
    simp only [show decide (Sn < ns) = false from decide_eq_false (by omega)]
    go_loopw [6] (fun i wr => ∃ k : Nat, k ≤ ns ∧ i = .int .i64 (k : Int) ∧ (∀ (j : Nat) y, j < k → set[j]? = some y → numR (Sn : Int) y = true ∧ y ∉ set.take j ∧ -y ∉ set.take j) ∧ Below u.heap.size u wr) (fun i _ => ns - (intOf i).toNat)
    case atStart => exact ⟨0, Nat.zero_le _, rfl, fun j _ h => absurd h (by omega), Below.refl _ _⟩
    case round =>
      obtain ⟨k, hk, rfl, hpre, hbel⟩ := hrel
      have HP := kide hpre
      have HB := kide (BU.out.trans (hbel.mono BU.out.size))
      have HBU := kide hbel
      have d0 := (XU.out.later hbel).cell 0
      have d1 := (XU.out.later hbel).cell 1
      have HX := kide (XU.out.later hbel)
      clear hpre hbel
      by_cases hlt : k < ns
      · obtain ⟨-, hi64, h | ⟨b3, o3, rfl, hc3⟩⟩ := HST.out.later HB.out
        · have := HNS.out; rw [h] at this; simp at this; omega
        have hk1 : k < set.length := by rw [HNS.out]; exact hlt
        have e3 := hc3 k hk1
        have ex : set[k]? = some (set.getD k 0) := by simp [List.getD, hk1]
        generalize set.getD k 0 = x at *
        have EX := kide ex
        have j0 : (k : Int) < (ns : Int) := by omega
        have HIN := kide (fun u => l1In_any x (-(Sn : Int)) (Sn : Int) u)
        have HXC : Hid (∀ uu, Below wr.heap.size wr uu → uu.cell? ⟨b3, o3 + k, none⟩ = some (.int .i64 x)) := fun uu hu => (hu.cell (p := ⟨b3, o3 + k, none⟩) (block_lt_of_cell e3)).trans e3
        have HSC : Hid (∀ uu, Below wr.heap.size wr uu → uu.cell? ⟨w.heap.size, 0, none⟩ = some (.int .i64 (Sn : Int))) := fun uu hu => (HX.out.later hu).cell 0
        have k0 : IntKind.i64.wrap (-(Sn : Int)) = -(Sn : Int) := by rw [IntKind.wrap_i64]; omega
        have k1 : (k : Int) ≤ (sc : Int) := by omega
        have hh : ∀ (y : Int) (v : World), Below wr.heap.size wr v → Calls Tryd.prog 31 #[.slice (some ⟨b3, o3, none⟩) k sc, .int .i64 y] v fun e w' => e = .returned (.bool (decide (y ∈ set.take k))) ∧ Below v.heap.size v w' := fun y v hv => by
          have h := l1Has_any (some ⟨b3, o3, none⟩) sc (set.take k) y v ((HST.out.later (HB.out.trans (hv.mono HB.out.size))).takeP k)
          rw [show (set.take k).length = k by rw [List.length_take]; omega] at h
          exact h.mono fun e w' hw => ⟨hw.1, by rw [hw.2]; exact Below.refl _ _⟩
        have HH := kide hh
        clear hc3 hi64 ex hh hk1
        by_cases hx0 : x = 0
        · have q0 : (x == 0) = true := by simp [hx0]
          have HF : Hid (R = ([], false)) := by
            show _ = _
            rw [← HR.out, if_neg]
            rintro ⟨-, h⟩
            rw [setR_no EX.out (.inl (by rw [hx0]; rfl))] at h
            cases h
          clear hx0
          go_wp2_with fail
          refine wp_region_x (SA := fun _ => False) (SB := fun uu => Below wr.heap.size wr uu) (k := 999) (by kernel_rfl) ?_
          have hm0 : Hid (Below wr.heap.size wr wr.drew) := (Below.refl _ _).drew
          generalize wr.drew = m0 at *
          try go_simp
          refine wpAnyX_both (T := fun uu => Below wr.heap.size wr uu) (i := 0) (v := Value.slice (some ⟨b3, o3, none⟩) ns sc) rfl (by kernel_rfl) (by kernel_rfl) (by kernel_rfl) (fun _ _ _ h => by first | exact h | exact h.elim) (by decide) (fun _ h => h.elim) (fun _ h => h) (Sx.behind (by kernel_rfl) hm0.out) (Or.inl ⟨by rfl, fun uu hu => by go_simp⟩) ?_
          try go_simp
          refine wpAnyX_both (T := fun uu => Below wr.heap.size wr uu) (i := 1) (v := Value.int .i64 (k : Int)) rfl (by kernel_rfl) (by kernel_rfl) (by kernel_rfl) (fun _ _ _ h => by first | exact h | exact h.elim) (by decide) (fun _ h => h.elim) (fun _ h => h) (Sx.behind (by kernel_rfl) hm0.out) (Or.inl ⟨by rfl, fun uu hu => by go_simp⟩) ?_
          try go_simp
          refine wpAnyX_both (T := fun uu => Below wr.heap.size wr uu) (i := 2) (v := Value.pointer (some ⟨b3, o3 + k, none⟩)) rfl (by kernel_rfl) (by kernel_rfl) (by kernel_rfl) (fun _ _ _ h => by first | exact h | exact h.elim) (by decide) (fun _ h => h.elim) (fun _ h => h) (Sx.behind (by kernel_rfl) hm0.out) (Or.inl ⟨by rfl, fun uu hu => by go_simp⟩) ?_
          try go_simp
          refine wpAnyX_both (T := fun uu => Below wr.heap.size wr uu) (i := 3) (v := Value.int .i64 x) rfl (by kernel_rfl) (by kernel_rfl) (by kernel_rfl) (fun _ _ _ h => by first | exact h | exact h.elim) (by decide) (fun _ h => h.elim) (fun _ h => h) (Sx.behind (by kernel_rfl) hm0.out) (Or.inl ⟨by rfl, fun uu hu => by have e0 := HXC.out uu hu; go_simp⟩) ?_
          try go_simp
          refine wpAnyX_both (T := fun uu => Below wr.heap.size wr uu) (i := 4) (v := Value.bool true) rfl (by kernel_rfl) (by kernel_rfl) (by kernel_rfl) (fun _ _ _ h => by first | exact h | exact h.elim) (by decide) (fun _ h => h.elim) (fun _ h => h) (Sx.behind (by kernel_rfl) hm0.out) (Or.inl ⟨by rfl, fun uu hu => by go_simp⟩) ?_
          try go_simp
          refine wpAnyX_both (T := fun uu => Below wr.heap.size wr uu) (i := 5) (v := Value.bool true) rfl (by kernel_rfl) (by kernel_rfl) (by kernel_rfl) (fun _ _ _ h => by first | exact h | exact h.elim) (by decide) (fun _ h => h.elim) (fun _ h => h) (Sx.behind (by kernel_rfl) hm0.out) (Or.inl ⟨by rfl, fun uu hu => by go_simp⟩) ?_
          try go_simp
          refine wpAnyX_both (T := fun uu => Below wr.heap.size wr uu) (i := 6) (v := undef) rfl (by kernel_rfl) (by kernel_rfl) (by kernel_rfl) (fun _ _ _ h => by first | exact h | exact h.elim) (by decide) (fun _ h => h.elim) (fun _ h => h) (Sx.behind (by kernel_rfl) hm0.out) (Or.inr ⟨by rfl, rfl⟩) ?_
          try go_simp
          refine wpAnyX_both (T := fun uu => Below wr.heap.size wr uu) (i := 7) (v := undef) rfl (by kernel_rfl) (by kernel_rfl) (by kernel_rfl) (fun _ _ _ h => by first | exact h | exact h.elim) (by decide) (fun _ h => h.elim) (fun _ h => h) (Sx.behind (by kernel_rfl) hm0.out) (Or.inr ⟨by rfl, rfl⟩) ?_
          try go_simp
          refine wpAnyX_both (T := fun uu => Below wr.heap.size wr uu) (i := 8) (v := undef) rfl (by kernel_rfl) (by kernel_rfl) (by kernel_rfl) (fun _ _ _ h => by first | exact h | exact h.elim) (by decide) (fun _ h => h.elim) (fun _ h => h) (Sx.behind (by kernel_rfl) hm0.out) (Or.inr ⟨by rfl, rfl⟩) ?_
          try go_simp
          refine wpAnyX_both (T := fun uu => Below wr.heap.size wr uu) (i := 9) (v := undef) rfl (by kernel_rfl) (by kernel_rfl) (by kernel_rfl) (fun _ _ _ h => by first | exact h | exact h.elim) (by decide) (fun _ h => h.elim) (fun _ h => h) (Sx.behind (by kernel_rfl) hm0.out) (Or.inr ⟨by rfl, rfl⟩) ?_
          try go_simp
          refine wpAnyX_both (T := fun uu => Below wr.heap.size wr uu) (i := 10) (v := undef) rfl (by kernel_rfl) (by kernel_rfl) (by kernel_rfl) (fun _ _ _ h => by first | exact h | exact h.elim) (by decide) (fun _ h => h.elim) (fun _ h => h) (Sx.behind (by kernel_rfl) hm0.out) (Or.inr ⟨by rfl, rfl⟩) ?_
          try go_simp
          refine wpAnyX_both (T := fun uu => Below wr.heap.size wr uu) (i := 11) (v := undef) rfl (by kernel_rfl) (by kernel_rfl) (by kernel_rfl) (fun _ _ _ h => by first | exact h | exact h.elim) (by decide) (fun _ h => h.elim) (fun _ h => h) (Sx.behind (by kernel_rfl) hm0.out) (Or.inr ⟨by rfl, rfl⟩) ?_
          try go_simp
          refine wpAnyX_both (T := fun uu => Below wr.heap.size wr uu) (i := 12) (v := undef) rfl (by kernel_rfl) (by kernel_rfl) (by kernel_rfl) (fun _ _ _ h => by first | exact h | exact h.elim) (by decide) (fun _ h => h.elim) (fun _ h => h) (Sx.behind (by kernel_rfl) hm0.out) (Or.inr ⟨by rfl, rfl⟩) ?_
          try go_simp
          refine wpAnyX_both (T := fun uu => Below wr.heap.size wr uu) (i := 13) (v := undef) rfl (by kernel_rfl) (by kernel_rfl) (by kernel_rfl) (fun _ _ _ h => by first | exact h | exact h.elim) (by decide) (fun _ h => h.elim) (fun _ h => h) (Sx.behind (by kernel_rfl) hm0.out) (Or.inr ⟨by rfl, rfl⟩) ?_
          try go_simp
          refine wpAnyX_both (T := fun uu => Below wr.heap.size wr uu) (i := 14) (v := undef) rfl (by kernel_rfl) (by kernel_rfl) (by kernel_rfl) (fun _ _ _ h => by first | exact h | exact h.elim) (by decide) (fun _ h => h.elim) (fun _ h => h) (Sx.behind (by kernel_rfl) hm0.out) (Or.inr ⟨by rfl, rfl⟩) ?_
          try go_simp
          refine wpAnyX_both (T := fun uu => Below wr.heap.size wr uu) (i := 15) (v := undef) rfl (by kernel_rfl) (by kernel_rfl) (by kernel_rfl) (fun _ _ _ h => by first | exact h | exact h.elim) (by decide) (fun _ h => h.elim) (fun _ h => h) (Sx.behind (by kernel_rfl) hm0.out) (Or.inr ⟨by rfl, rfl⟩) ?_
          try go_simp
          refine wpAnyX_both (T := fun uu => Below wr.heap.size wr uu) (i := 16) (v := undef) rfl (by kernel_rfl) (by kernel_rfl) (by kernel_rfl) (fun _ _ _ h => by first | exact h | exact h.elim) (by decide) (fun _ h => h.elim) (fun _ h => h) (Sx.behind (by kernel_rfl) hm0.out) (Or.inr ⟨by rfl, rfl⟩) ?_
          try go_simp
          refine wpAnyX_both (T := fun uu => Below wr.heap.size wr uu) (i := 17) (v := Value.bool true) rfl (by kernel_rfl) (by kernel_rfl) (by kernel_rfl) (fun _ _ _ h => by first | exact h | exact h.elim) (by decide) (fun _ h => h.elim) (fun _ h => h) (Sx.behind (by kernel_rfl) hm0.out) (Or.inl ⟨by rfl, fun uu hu => by go_simp⟩) ?_
          try go_simp
          refine wpAnyX_both (T := fun uu => Below wr.heap.size wr uu) (i := 18) (v := Value.bool true) rfl (by kernel_rfl) (by kernel_rfl) (by kernel_rfl) (fun _ _ _ h => by first | exact h | exact h.elim) (by decide) (fun _ h => h.elim) (fun _ h => h) (Sx.behind (by kernel_rfl) hm0.out) (Or.inl ⟨by rfl, fun uu hu => by go_simp⟩) ?_
          try go_simp
          refine wpAnyX_both (T := fun uu => Below wr.heap.size wr uu) (i := 19) (v := undef) rfl (by kernel_rfl) (by kernel_rfl) (by kernel_rfl) (fun _ _ _ h => by first | exact h | exact h.elim) (by decide) (fun _ h => h.elim) (fun _ h => h) (Sx.behind (by kernel_rfl) hm0.out) (Or.inr ⟨by rfl, rfl⟩) ?_
          try go_simp
          refine wpAnyX_both (T := fun uu => Below wr.heap.size wr uu) (i := 20) (v := undef) rfl (by kernel_rfl) (by kernel_rfl) (by kernel_rfl) (fun _ _ _ h => by first | exact h | exact h.elim) (by decide) (fun _ h => h.elim) (fun _ h => h) (Sx.behind (by kernel_rfl) hm0.out) (Or.inr ⟨by rfl, rfl⟩) ?_
          try go_simp
          refine wpAnyX_both (T := fun uu => Below wr.heap.size wr uu) (i := 21) (v := undef) rfl (by kernel_rfl) (by kernel_rfl) (by kernel_rfl) (fun _ _ _ h => by first | exact h | exact h.elim) (by decide) (fun _ h => h.elim) (fun _ h => h) (Sx.behind (by kernel_rfl) hm0.out) (Or.inr ⟨by rfl, rfl⟩) ?_
          try go_simp
          refine wpAnyX_both (T := fun uu => Below wr.heap.size wr uu) (i := 22) (v := undef) rfl (by kernel_rfl) (by kernel_rfl) (by kernel_rfl) (fun _ _ _ h => by first | exact h | exact h.elim) (by decide) (fun _ h => h.elim) (fun _ h => h) (Sx.behind (by kernel_rfl) hm0.out) (Or.inr ⟨by rfl, rfl⟩) ?_
          try go_simp
          refine wpAnyX_both (T := fun uu => Below wr.heap.size wr uu) (i := 23) (v := undef) rfl (by kernel_rfl) (by kernel_rfl) (by kernel_rfl) (fun _ _ _ h => by first | exact h | exact h.elim) (by decide) (fun _ h => h.elim) (fun _ h => h) (Sx.behind (by kernel_rfl) hm0.out) (Or.inr ⟨by rfl, rfl⟩) ?_
          try go_simp
          refine wpAnyX_both (T := fun uu => Below wr.heap.size wr uu) (i := 24) (v := undef) rfl (by kernel_rfl) (by kernel_rfl) (by kernel_rfl) (fun _ _ _ h => by first | exact h | exact h.elim) (by decide) (fun _ h => h.elim) (fun _ h => h) (Sx.behind (by kernel_rfl) hm0.out) (Or.inr ⟨by rfl, rfl⟩) ?_
          try go_simp
          refine wpAnyX_both (T := fun uu => Below wr.heap.size wr uu) (i := 25) (v := undef) rfl (by kernel_rfl) (by kernel_rfl) (by kernel_rfl) (fun _ _ _ h => by first | exact h | exact h.elim) (by decide) (fun _ h => h.elim) (fun _ h => h) (Sx.behind (by kernel_rfl) hm0.out) (Or.inr ⟨by rfl, rfl⟩) ?_
          try go_simp
          refine wpAnyX_both (T := fun uu => Below wr.heap.size wr uu) (i := 26) (v := undef) rfl (by kernel_rfl) (by kernel_rfl) (by kernel_rfl) (fun _ _ _ h => by first | exact h | exact h.elim) (by decide) (fun _ h => h.elim) (fun _ h => h) (Sx.behind (by kernel_rfl) hm0.out) (Or.inr ⟨by rfl, rfl⟩) ?_
          try go_simp
          refine wpAnyX_both (T := fun uu => Below wr.heap.size wr uu) (i := 27) (v := Value.bool true) rfl (by kernel_rfl) (by kernel_rfl) (by kernel_rfl) (fun _ _ _ h => by first | exact h | exact h.elim) (by decide) (fun _ h => h.elim) (fun _ h => h) (Sx.behind (by kernel_rfl) hm0.out) (Or.inl ⟨by rfl, fun uu hu => by go_simp⟩) ?_
          try go_simp
          refine wpAnyX_both (T := fun uu => Below wr.heap.size wr uu) (i := 28) (v := Value.bool true) rfl (by kernel_rfl) (by kernel_rfl) (by kernel_rfl) (fun _ _ _ h => by first | exact h | exact h.elim) (by decide) (fun _ h => h.elim) (fun _ h => h) (Sx.behind (by kernel_rfl) hm0.out) (Or.inl ⟨by rfl, fun uu hu => by go_simp⟩) ?_
          try go_simp
          refine wpAnyX_both (T := fun uu => Below wr.heap.size wr uu) (i := 29) (v := undef) rfl (by kernel_rfl) (by kernel_rfl) (by kernel_rfl) (fun _ _ _ h => by first | exact h | exact h.elim) (by decide) (fun _ h => h.elim) (fun _ h => h) (Sx.behind (by kernel_rfl) hm0.out) (Or.inr ⟨by rfl, rfl⟩) ?_
          try go_simp
          refine wpAnyX_both (T := fun uu => Below wr.heap.size wr uu) (i := 30) (v := undef) rfl (by kernel_rfl) (by kernel_rfl) (by kernel_rfl) (fun _ _ _ h => by first | exact h | exact h.elim) (by decide) (fun _ h => h.elim) (fun _ h => h) (Sx.behind (by kernel_rfl) hm0.out) (Or.inr ⟨by rfl, rfl⟩) ?_
          try go_simp
          refine wpAnyX_both (T := fun uu => Below wr.heap.size wr uu) (i := 31) (v := undef) rfl (by kernel_rfl) (by kernel_rfl) (by kernel_rfl) (fun _ _ _ h => by first | exact h | exact h.elim) (by decide) (fun _ h => h.elim) (fun _ h => h) (Sx.behind (by kernel_rfl) hm0.out) (Or.inr ⟨by rfl, rfl⟩) ?_
          try go_simp
          refine wpAnyX_both (T := fun uu => Below wr.heap.size wr uu) (i := 32) (v := undef) rfl (by kernel_rfl) (by kernel_rfl) (by kernel_rfl) (fun _ _ _ h => by first | exact h | exact h.elim) (by decide) (fun _ h => h.elim) (fun _ h => h) (Sx.behind (by kernel_rfl) hm0.out) (Or.inr ⟨by rfl, rfl⟩) ?_
          try go_simp
          refine wpAnyX_both (T := fun uu => Below wr.heap.size wr uu) (i := 33) (v := undef) rfl (by kernel_rfl) (by kernel_rfl) (by kernel_rfl) (fun _ _ _ h => by first | exact h | exact h.elim) (by decide) (fun _ h => h.elim) (fun _ h => h) (Sx.behind (by kernel_rfl) hm0.out) (Or.inr ⟨by rfl, rfl⟩) ?_
          try go_simp
          refine wpAnyX_both (T := fun uu => Below wr.heap.size wr uu) (i := 34) (v := undef) rfl (by kernel_rfl) (by kernel_rfl) (by kernel_rfl) (fun _ _ _ h => by first | exact h | exact h.elim) (by decide) (fun _ h => h.elim) (fun _ h => h) (Sx.behind (by kernel_rfl) hm0.out) (Or.inr ⟨by rfl, rfl⟩) ?_
          try go_simp
          refine wpAnyX_both (T := fun uu => Below wr.heap.size wr uu) (i := 35) (v := undef) rfl (by kernel_rfl) (by kernel_rfl) (by kernel_rfl) (fun _ _ _ h => by first | exact h | exact h.elim) (by decide) (fun _ h => h.elim) (fun _ h => h) (Sx.behind (by kernel_rfl) hm0.out) (Or.inr ⟨by rfl, rfl⟩) ?_
          try go_simp
          refine wpAnyX_both (T := fun uu => Below wr.heap.size wr uu) (i := 36) (v := undef) rfl (by kernel_rfl) (by kernel_rfl) (by kernel_rfl) (fun _ _ _ h => by first | exact h | exact h.elim) (by decide) (fun _ h => h.elim) (fun _ h => h) (Sx.behind (by kernel_rfl) hm0.out) (Or.inr ⟨by rfl, rfl⟩) ?_
          try go_simp
          refine wpAnyX_both (T := fun uu => Below wr.heap.size wr uu) (i := 37) (v := undef) rfl (by kernel_rfl) (by kernel_rfl) (by kernel_rfl) (fun _ _ _ h => by first | exact h | exact h.elim) (by decide) (fun _ h => h.elim) (fun _ h => h) (Sx.behind (by kernel_rfl) hm0.out) (Or.inr ⟨by rfl, rfl⟩) ?_
          try go_simp
          refine wpAnyX_both (T := fun uu => Below wr.heap.size wr uu) (i := 38) (v := Value.bool true) rfl (by kernel_rfl) (by kernel_rfl) (by kernel_rfl) (fun _ _ _ h => by first | exact h | exact h.elim) (by decide) (fun _ h => h.elim) (fun _ h => h) (Sx.behind (by kernel_rfl) hm0.out) (Or.inl ⟨by rfl, fun uu hu => by go_simp⟩) ?_
          try go_simp
          refine wpAnyX_done (by kernel_rfl) ?_ _
          go_wp2_with fail
          have BD := HB.out.trans (hm0.out.mono HB.out.size)
          exact bodyPost_ret (v := .tuple #[.slice (some ⟨m0.heap.size, 0, none⟩) 0 0, .bool false]) (by simp [results, Tryd.results8, go_sem]) rfl (by rw [HF.out]; exact NIL.out _ BD)
        have q0 : (x == 0) = false := by simp [hx0]
        have HI2 : Hid (∀ v, Below wr.heap.size wr v → Calls Tryd.prog 30 #[.int .i64 x, .int .i64 (-(Sn : Int)), .int .i64 (Sn : Int)] v fun e w' => e = .returned (.bool (decide (-(Sn : Int) ≤ x ∧ x ≤ (Sn : Int)))) ∧ Below v.heap.size v w') := fun v _ => (HIN.out v).mono fun e w' hw => ⟨hw.1, by rw [hw.2]; exact Below.refl _ _⟩
        clear HIN
        cases hdd : decide (-(Sn : Int) ≤ x ∧ x ≤ (Sn : Int)) with
        | false =>
          rw [hdd] at HI2
          have HF : Hid (R = ([], false)) := by
            show _ = _
            rw [← HR.out, if_neg]
            rintro ⟨-, h⟩
            rw [setR_no EX.out (.inl (by simp [numR, hdd]))] at h
            cases h
          clear hx0 hdd
          go_wp2_with fail
          refine wp_region_x (SA := fun _ => False) (SB := fun uu => Below wr.heap.size wr uu) (k := 999) (by kernel_rfl) ?_
          have hm0 : Hid (Below wr.heap.size wr wr.drew) := (Below.refl _ _).drew
          generalize wr.drew = m0 at *
          try go_simp
          refine wpAnyX_both (T := fun uu => Below wr.heap.size wr uu) (i := 0) (v := Value.slice (some ⟨b3, o3, none⟩) ns sc) rfl (by kernel_rfl) (by kernel_rfl) (by kernel_rfl) (fun _ _ _ h => by first | exact h | exact h.elim) (by decide) (fun _ h => h.elim) (fun _ h => h) (Sx.behind (by kernel_rfl) hm0.out) (Or.inl ⟨by rfl, fun uu hu => by go_simp⟩) ?_
          try go_simp
          refine wpAnyX_both (T := fun uu => Below wr.heap.size wr uu) (i := 1) (v := Value.int .i64 (k : Int)) rfl (by kernel_rfl) (by kernel_rfl) (by kernel_rfl) (fun _ _ _ h => by first | exact h | exact h.elim) (by decide) (fun _ h => h.elim) (fun _ h => h) (Sx.behind (by kernel_rfl) hm0.out) (Or.inl ⟨by rfl, fun uu hu => by go_simp⟩) ?_
          try go_simp
          refine wpAnyX_both (T := fun uu => Below wr.heap.size wr uu) (i := 2) (v := Value.pointer (some ⟨b3, o3 + k, none⟩)) rfl (by kernel_rfl) (by kernel_rfl) (by kernel_rfl) (fun _ _ _ h => by first | exact h | exact h.elim) (by decide) (fun _ h => h.elim) (fun _ h => h) (Sx.behind (by kernel_rfl) hm0.out) (Or.inl ⟨by rfl, fun uu hu => by go_simp⟩) ?_
          try go_simp
          refine wpAnyX_both (T := fun uu => Below wr.heap.size wr uu) (i := 3) (v := Value.int .i64 x) rfl (by kernel_rfl) (by kernel_rfl) (by kernel_rfl) (fun _ _ _ h => by first | exact h | exact h.elim) (by decide) (fun _ h => h.elim) (fun _ h => h) (Sx.behind (by kernel_rfl) hm0.out) (Or.inl ⟨by rfl, fun uu hu => by have e0 := HXC.out uu hu; go_simp⟩) ?_
          try go_simp
          refine wpAnyX_both (T := fun uu => Below wr.heap.size wr uu) (i := 4) (v := Value.bool false) rfl (by kernel_rfl) (by kernel_rfl) (by kernel_rfl) (fun _ _ _ h => by first | exact h | exact h.elim) (by decide) (fun _ h => h.elim) (fun _ h => h) (Sx.behind (by kernel_rfl) hm0.out) (Or.inl ⟨by rfl, fun uu hu => by go_simp⟩) ?_
          try go_simp
          refine wpAnyX_both (T := fun uu => Below wr.heap.size wr uu) (i := 5) (v := Value.bool false) rfl (by kernel_rfl) (by kernel_rfl) (by kernel_rfl) (fun _ _ _ h => by first | exact h | exact h.elim) (by decide) (fun _ h => h.elim) (fun _ h => h) (Sx.behind (by kernel_rfl) hm0.out) (Or.inl ⟨by rfl, fun uu hu => by go_simp⟩) ?_
          try go_simp
          refine wpAnyX_both (T := fun uu => Below wr.heap.size wr uu) (i := 6) (v := Value.slice (some ⟨b3, o3, none⟩) ns sc) rfl (by kernel_rfl) (by kernel_rfl) (by kernel_rfl) (fun _ _ _ h => by first | exact h | exact h.elim) (by decide) (fun _ h => h.elim) (fun _ h => h) (Sx.behind (by kernel_rfl) hm0.out) (Or.inl ⟨by rfl, fun uu hu => by go_simp⟩) ?_
          try go_simp
          refine wpAnyX_both (T := fun uu => Below wr.heap.size wr uu) (i := 7) (v := Value.int .i64 (k : Int)) rfl (by kernel_rfl) (by kernel_rfl) (by kernel_rfl) (fun _ _ _ h => by first | exact h | exact h.elim) (by decide) (fun _ h => h.elim) (fun _ h => h) (Sx.behind (by kernel_rfl) hm0.out) (Or.inl ⟨by rfl, fun uu hu => by go_simp⟩) ?_
          try go_simp
          refine wpAnyX_both (T := fun uu => Below wr.heap.size wr uu) (i := 8) (v := Value.pointer (some ⟨b3, o3 + k, none⟩)) rfl (by kernel_rfl) (by kernel_rfl) (by kernel_rfl) (fun _ _ _ h => by first | exact h | exact h.elim) (by decide) (fun _ h => h.elim) (fun _ h => h) (Sx.behind (by kernel_rfl) hm0.out) (Or.inl ⟨by rfl, fun uu hu => by go_simp⟩) ?_
          try go_simp
          refine wpAnyX_both (T := fun uu => Below wr.heap.size wr uu) (i := 9) (v := Value.int .i64 x) rfl (by kernel_rfl) (by kernel_rfl) (by kernel_rfl) (fun _ _ _ h => by first | exact h | exact h.elim) (by decide) (fun _ h => h.elim) (fun _ h => h) (Sx.behind (by kernel_rfl) hm0.out) (Or.inl ⟨by rfl, fun uu hu => by have e0 := HXC.out uu hu; go_simp⟩) ?_
          try go_simp
          refine wpAnyX_both (T := fun uu => Below wr.heap.size wr uu) (i := 10) (v := Value.pointer (some ⟨w.heap.size, 0, none⟩)) rfl (by kernel_rfl) (by kernel_rfl) (by kernel_rfl) (fun _ _ _ h => by first | exact h | exact h.elim) (by decide) (fun _ h => h.elim) (fun _ h => h) (Sx.behind (by kernel_rfl) hm0.out) (Or.inl ⟨by rfl, fun uu hu => by go_simp⟩) ?_
          try go_simp
          refine wpAnyX_both (T := fun uu => Below wr.heap.size wr uu) (i := 11) (v := Value.int .i64 (Sn : Int)) rfl (by kernel_rfl) (by kernel_rfl) (by kernel_rfl) (fun _ _ _ h => by first | exact h | exact h.elim) (by decide) (fun _ h => h.elim) (fun _ h => h) (Sx.behind (by kernel_rfl) hm0.out) (Or.inl ⟨by rfl, fun uu hu => by have e0 := HSC.out uu hu; go_simp⟩) ?_
          try go_simp
          refine wpAnyX_both (T := fun uu => Below wr.heap.size wr uu) (i := 12) (v := Value.int .i64 (-(Sn : Int))) rfl (by kernel_rfl) (by kernel_rfl) (by kernel_rfl) (fun _ _ _ h => by first | exact h | exact h.elim) (by decide) (fun _ h => h.elim) (fun _ h => h) (Sx.behind (by kernel_rfl) hm0.out) (Or.inl ⟨by rfl, fun uu hu => by go_simp⟩) ?_
          try go_simp
          refine wpAnyX_both (T := fun uu => Below wr.heap.size wr uu) (i := 13) (v := Value.pointer (some ⟨w.heap.size, 0, none⟩)) rfl (by kernel_rfl) (by kernel_rfl) (by kernel_rfl) (fun _ _ _ h => by first | exact h | exact h.elim) (by decide) (fun _ h => h.elim) (fun _ h => h) (Sx.behind (by kernel_rfl) hm0.out) (Or.inl ⟨by rfl, fun uu hu => by go_simp⟩) ?_
          try go_simp
          refine wpAnyX_both (T := fun uu => Below wr.heap.size wr uu) (i := 14) (v := Value.int .i64 (Sn : Int)) rfl (by kernel_rfl) (by kernel_rfl) (by kernel_rfl) (fun _ _ _ h => by first | exact h | exact h.elim) (by decide) (fun _ h => h.elim) (fun _ h => h) (Sx.behind (by kernel_rfl) hm0.out) (Or.inl ⟨by rfl, fun uu hu => by have e0 := HSC.out uu hu; go_simp⟩) ?_
          try go_simp
          refine wpAnyX_ready (rs := [15]) (by kernel_rfl) (by simp) (AllX.cons rfl (fun K hK => ?_) AllX.nil)
          go_simp
          refine Calls.mono (HI2.out m0 hm0.out) ?_
          rintro e m1 ⟨rfl, hb⟩
          have hm1 : Hid (Below wr.heap.size wr m1) := hm0.out.trans (hb.mono hm0.out.size)
          refine hK _ _ (Sx.behind (by kernel_rfl) hm1.out) ?_
          clear hK K hb
          try go_simp
          refine wpAnyX_both (T := fun uu => Below wr.heap.size wr uu) (i := 16) (v := Value.bool true) rfl (by kernel_rfl) (by kernel_rfl) (by kernel_rfl) (fun _ _ _ h => by first | exact h | exact h.elim) (by decide) (fun _ h => h.elim) (fun _ h => h) (Sx.behind (by kernel_rfl) hm1.out) (Or.inl ⟨by rfl, fun uu hu => by go_simp⟩) ?_
          try go_simp
          refine wpAnyX_both (T := fun uu => Below wr.heap.size wr uu) (i := 17) (v := Value.bool true) rfl (by kernel_rfl) (by kernel_rfl) (by kernel_rfl) (fun _ _ _ h => by first | exact h | exact h.elim) (by decide) (fun _ h => h.elim) (fun _ h => h) (Sx.behind (by kernel_rfl) hm1.out) (Or.inl ⟨by rfl, fun uu hu => by go_simp⟩) ?_
          try go_simp
          refine wpAnyX_both (T := fun uu => Below wr.heap.size wr uu) (i := 18) (v := Value.bool true) rfl (by kernel_rfl) (by kernel_rfl) (by kernel_rfl) (fun _ _ _ h => by first | exact h | exact h.elim) (by decide) (fun _ h => h.elim) (fun _ h => h) (Sx.behind (by kernel_rfl) hm1.out) (Or.inl ⟨by rfl, fun uu hu => by go_simp⟩) ?_
          try go_simp
          refine wpAnyX_both (T := fun uu => Below wr.heap.size wr uu) (i := 19) (v := undef) rfl (by kernel_rfl) (by kernel_rfl) (by kernel_rfl) (fun _ _ _ h => by first | exact h | exact h.elim) (by decide) (fun _ h => h.elim) (fun _ h => h) (Sx.behind (by kernel_rfl) hm1.out) (Or.inr ⟨by rfl, rfl⟩) ?_
          try go_simp
          refine wpAnyX_both (T := fun uu => Below wr.heap.size wr uu) (i := 20) (v := undef) rfl (by kernel_rfl) (by kernel_rfl) (by kernel_rfl) (fun _ _ _ h => by first | exact h | exact h.elim) (by decide) (fun _ h => h.elim) (fun _ h => h) (Sx.behind (by kernel_rfl) hm1.out) (Or.inr ⟨by rfl, rfl⟩) ?_
          try go_simp
          refine wpAnyX_both (T := fun uu => Below wr.heap.size wr uu) (i := 21) (v := undef) rfl (by kernel_rfl) (by kernel_rfl) (by kernel_rfl) (fun _ _ _ h => by first | exact h | exact h.elim) (by decide) (fun _ h => h.elim) (fun _ h => h) (Sx.behind (by kernel_rfl) hm1.out) (Or.inr ⟨by rfl, rfl⟩) ?_
          try go_simp
          refine wpAnyX_both (T := fun uu => Below wr.heap.size wr uu) (i := 22) (v := undef) rfl (by kernel_rfl) (by kernel_rfl) (by kernel_rfl) (fun _ _ _ h => by first | exact h | exact h.elim) (by decide) (fun _ h => h.elim) (fun _ h => h) (Sx.behind (by kernel_rfl) hm1.out) (Or.inr ⟨by rfl, rfl⟩) ?_
          try go_simp
          refine wpAnyX_both (T := fun uu => Below wr.heap.size wr uu) (i := 23) (v := undef) rfl (by kernel_rfl) (by kernel_rfl) (by kernel_rfl) (fun _ _ _ h => by first | exact h | exact h.elim) (by decide) (fun _ h => h.elim) (fun _ h => h) (Sx.behind (by kernel_rfl) hm1.out) (Or.inr ⟨by rfl, rfl⟩) ?_
          try go_simp
          refine wpAnyX_both (T := fun uu => Below wr.heap.size wr uu) (i := 24) (v := undef) rfl (by kernel_rfl) (by kernel_rfl) (by kernel_rfl) (fun _ _ _ h => by first | exact h | exact h.elim) (by decide) (fun _ h => h.elim) (fun _ h => h) (Sx.behind (by kernel_rfl) hm1.out) (Or.inr ⟨by rfl, rfl⟩) ?_
          try go_simp
          refine wpAnyX_both (T := fun uu => Below wr.heap.size wr uu) (i := 25) (v := undef) rfl (by kernel_rfl) (by kernel_rfl) (by kernel_rfl) (fun _ _ _ h => by first | exact h | exact h.elim) (by decide) (fun _ h => h.elim) (fun _ h => h) (Sx.behind (by kernel_rfl) hm1.out) (Or.inr ⟨by rfl, rfl⟩) ?_
          try go_simp
          refine wpAnyX_both (T := fun uu => Below wr.heap.size wr uu) (i := 26) (v := undef) rfl (by kernel_rfl) (by kernel_rfl) (by kernel_rfl) (fun _ _ _ h => by first | exact h | exact h.elim) (by decide) (fun _ h => h.elim) (fun _ h => h) (Sx.behind (by kernel_rfl) hm1.out) (Or.inr ⟨by rfl, rfl⟩) ?_
          try go_simp
          refine wpAnyX_both (T := fun uu => Below wr.heap.size wr uu) (i := 27) (v := Value.bool true) rfl (by kernel_rfl) (by kernel_rfl) (by kernel_rfl) (fun _ _ _ h => by first | exact h | exact h.elim) (by decide) (fun _ h => h.elim) (fun _ h => h) (Sx.behind (by kernel_rfl) hm1.out) (Or.inl ⟨by rfl, fun uu hu => by go_simp⟩) ?_
          try go_simp
          refine wpAnyX_both (T := fun uu => Below wr.heap.size wr uu) (i := 28) (v := Value.bool true) rfl (by kernel_rfl) (by kernel_rfl) (by kernel_rfl) (fun _ _ _ h => by first | exact h | exact h.elim) (by decide) (fun _ h => h.elim) (fun _ h => h) (Sx.behind (by kernel_rfl) hm1.out) (Or.inl ⟨by rfl, fun uu hu => by go_simp⟩) ?_
          try go_simp
          refine wpAnyX_both (T := fun uu => Below wr.heap.size wr uu) (i := 29) (v := undef) rfl (by kernel_rfl) (by kernel_rfl) (by kernel_rfl) (fun _ _ _ h => by first | exact h | exact h.elim) (by decide) (fun _ h => h.elim) (fun _ h => h) (Sx.behind (by kernel_rfl) hm1.out) (Or.inr ⟨by rfl, rfl⟩) ?_
          try go_simp
          refine wpAnyX_both (T := fun uu => Below wr.heap.size wr uu) (i := 30) (v := undef) rfl (by kernel_rfl) (by kernel_rfl) (by kernel_rfl) (fun _ _ _ h => by first | exact h | exact h.elim) (by decide) (fun _ h => h.elim) (fun _ h => h) (Sx.behind (by kernel_rfl) hm1.out) (Or.inr ⟨by rfl, rfl⟩) ?_
          try go_simp
          refine wpAnyX_both (T := fun uu => Below wr.heap.size wr uu) (i := 31) (v := undef) rfl (by kernel_rfl) (by kernel_rfl) (by kernel_rfl) (fun _ _ _ h => by first | exact h | exact h.elim) (by decide) (fun _ h => h.elim) (fun _ h => h) (Sx.behind (by kernel_rfl) hm1.out) (Or.inr ⟨by rfl, rfl⟩) ?_
          try go_simp
          refine wpAnyX_both (T := fun uu => Below wr.heap.size wr uu) (i := 32) (v := undef) rfl (by kernel_rfl) (by kernel_rfl) (by kernel_rfl) (fun _ _ _ h => by first | exact h | exact h.elim) (by decide) (fun _ h => h.elim) (fun _ h => h) (Sx.behind (by kernel_rfl) hm1.out) (Or.inr ⟨by rfl, rfl⟩) ?_
          try go_simp
          refine wpAnyX_both (T := fun uu => Below wr.heap.size wr uu) (i := 33) (v := undef) rfl (by kernel_rfl) (by kernel_rfl) (by kernel_rfl) (fun _ _ _ h => by first | exact h | exact h.elim) (by decide) (fun _ h => h.elim) (fun _ h => h) (Sx.behind (by kernel_rfl) hm1.out) (Or.inr ⟨by rfl, rfl⟩) ?_
          try go_simp
          refine wpAnyX_both (T := fun uu => Below wr.heap.size wr uu) (i := 34) (v := undef) rfl (by kernel_rfl) (by kernel_rfl) (by kernel_rfl) (fun _ _ _ h => by first | exact h | exact h.elim) (by decide) (fun _ h => h.elim) (fun _ h => h) (Sx.behind (by kernel_rfl) hm1.out) (Or.inr ⟨by rfl, rfl⟩) ?_
          try go_simp
          refine wpAnyX_both (T := fun uu => Below wr.heap.size wr uu) (i := 35) (v := undef) rfl (by kernel_rfl) (by kernel_rfl) (by kernel_rfl) (fun _ _ _ h => by first | exact h | exact h.elim) (by decide) (fun _ h => h.elim) (fun _ h => h) (Sx.behind (by kernel_rfl) hm1.out) (Or.inr ⟨by rfl, rfl⟩) ?_
          try go_simp
          refine wpAnyX_both (T := fun uu => Below wr.heap.size wr uu) (i := 36) (v := undef) rfl (by kernel_rfl) (by kernel_rfl) (by kernel_rfl) (fun _ _ _ h => by first | exact h | exact h.elim) (by decide) (fun _ h => h.elim) (fun _ h => h) (Sx.behind (by kernel_rfl) hm1.out) (Or.inr ⟨by rfl, rfl⟩) ?_
          try go_simp
          refine wpAnyX_both (T := fun uu => Below wr.heap.size wr uu) (i := 37) (v := undef) rfl (by kernel_rfl) (by kernel_rfl) (by kernel_rfl) (fun _ _ _ h => by first | exact h | exact h.elim) (by decide) (fun _ h => h.elim) (fun _ h => h) (Sx.behind (by kernel_rfl) hm1.out) (Or.inr ⟨by rfl, rfl⟩) ?_
          try go_simp
          refine wpAnyX_both (T := fun uu => Below wr.heap.size wr uu) (i := 38) (v := Value.bool true) rfl (by kernel_rfl) (by kernel_rfl) (by kernel_rfl) (fun _ _ _ h => by first | exact h | exact h.elim) (by decide) (fun _ h => h.elim) (fun _ h => h) (Sx.behind (by kernel_rfl) hm1.out) (Or.inl ⟨by rfl, fun uu hu => by go_simp⟩) ?_
          try go_simp
          refine wpAnyX_done (by kernel_rfl) ?_ _
          go_wp2_with fail
          have BD := HB.out.trans (hm1.out.mono HB.out.size)
          exact bodyPost_ret (v := .tuple #[.slice (some ⟨m1.heap.size, 0, none⟩) 0 0, .bool false]) (by simp [results, Tryd.results8, go_sem]) rfl (by rw [HF.out]; exact NIL.out _ BD)
        | true =>
          rw [hdd] at HI2
          have HNU : Hid (numR (Sn : Int) x = true) := by show _ = _; simp [numR, hx0, of_decide_eq_true hdd]
          obtain ⟨x1, x2⟩ := of_decide_eq_true hdd
          have q1 : IntKind.i64.wrap (-x) = -x := by rw [IntKind.wrap_i64]; omega
          have H1 := kide (HH.out x)
          have H2 := kide (HH.out (-x))
          clear HH
          cases hm1 : decide (x ∈ set.take k) with
          | true =>
            rw [hm1] at H1
            have HF : Hid (R = ([], false)) := by
              show _ = _
              rw [← HR.out, if_neg]
              rintro ⟨-, h⟩
              rw [setR_no EX.out (.inr (.inl (of_decide_eq_true hm1)))] at h
              cases h
            clear hx0 hdd hm1
            go_wp2_with fail
            refine wp_region_x (SA := fun _ => False) (SB := fun uu => Below wr.heap.size wr uu) (k := 999) (by kernel_rfl) ?_
            have hm0 : Hid (Below wr.heap.size wr wr.drew) := (Below.refl _ _).drew
            generalize wr.drew = m0 at *
            try go_simp
            refine wpAnyX_both (T := fun uu => Below wr.heap.size wr uu) (i := 0) (v := Value.slice (some ⟨b3, o3, none⟩) ns sc) rfl (by kernel_rfl) (by kernel_rfl) (by kernel_rfl) (fun _ _ _ h => by first | exact h | exact h.elim) (by decide) (fun _ h => h.elim) (fun _ h => h) (Sx.behind (by kernel_rfl) hm0.out) (Or.inl ⟨by rfl, fun uu hu => by go_simp⟩) ?_
            try go_simp
            refine wpAnyX_both (T := fun uu => Below wr.heap.size wr uu) (i := 1) (v := Value.int .i64 (k : Int)) rfl (by kernel_rfl) (by kernel_rfl) (by kernel_rfl) (fun _ _ _ h => by first | exact h | exact h.elim) (by decide) (fun _ h => h.elim) (fun _ h => h) (Sx.behind (by kernel_rfl) hm0.out) (Or.inl ⟨by rfl, fun uu hu => by go_simp⟩) ?_
            try go_simp
            refine wpAnyX_both (T := fun uu => Below wr.heap.size wr uu) (i := 2) (v := Value.pointer (some ⟨b3, o3 + k, none⟩)) rfl (by kernel_rfl) (by kernel_rfl) (by kernel_rfl) (fun _ _ _ h => by first | exact h | exact h.elim) (by decide) (fun _ h => h.elim) (fun _ h => h) (Sx.behind (by kernel_rfl) hm0.out) (Or.inl ⟨by rfl, fun uu hu => by go_simp⟩) ?_
            try go_simp
            refine wpAnyX_both (T := fun uu => Below wr.heap.size wr uu) (i := 3) (v := Value.int .i64 x) rfl (by kernel_rfl) (by kernel_rfl) (by kernel_rfl) (fun _ _ _ h => by first | exact h | exact h.elim) (by decide) (fun _ h => h.elim) (fun _ h => h) (Sx.behind (by kernel_rfl) hm0.out) (Or.inl ⟨by rfl, fun uu hu => by have e0 := HXC.out uu hu; go_simp⟩) ?_
            try go_simp
            refine wpAnyX_both (T := fun uu => Below wr.heap.size wr uu) (i := 4) (v := Value.bool false) rfl (by kernel_rfl) (by kernel_rfl) (by kernel_rfl) (fun _ _ _ h => by first | exact h | exact h.elim) (by decide) (fun _ h => h.elim) (fun _ h => h) (Sx.behind (by kernel_rfl) hm0.out) (Or.inl ⟨by rfl, fun uu hu => by go_simp⟩) ?_
            try go_simp
            refine wpAnyX_both (T := fun uu => Below wr.heap.size wr uu) (i := 5) (v := Value.bool false) rfl (by kernel_rfl) (by kernel_rfl) (by kernel_rfl) (fun _ _ _ h => by first | exact h | exact h.elim) (by decide) (fun _ h => h.elim) (fun _ h => h) (Sx.behind (by kernel_rfl) hm0.out) (Or.inl ⟨by rfl, fun uu hu => by go_simp⟩) ?_
            try go_simp
            refine wpAnyX_both (T := fun uu => Below wr.heap.size wr uu) (i := 6) (v := Value.slice (some ⟨b3, o3, none⟩) ns sc) rfl (by kernel_rfl) (by kernel_rfl) (by kernel_rfl) (fun _ _ _ h => by first | exact h | exact h.elim) (by decide) (fun _ h => h.elim) (fun _ h => h) (Sx.behind (by kernel_rfl) hm0.out) (Or.inl ⟨by rfl, fun uu hu => by go_simp⟩) ?_
            try go_simp
            refine wpAnyX_both (T := fun uu => Below wr.heap.size wr uu) (i := 7) (v := Value.int .i64 (k : Int)) rfl (by kernel_rfl) (by kernel_rfl) (by kernel_rfl) (fun _ _ _ h => by first | exact h | exact h.elim) (by decide) (fun _ h => h.elim) (fun _ h => h) (Sx.behind (by kernel_rfl) hm0.out) (Or.inl ⟨by rfl, fun uu hu => by go_simp⟩) ?_
            try go_simp
            refine wpAnyX_both (T := fun uu => Below wr.heap.size wr uu) (i := 8) (v := Value.pointer (some ⟨b3, o3 + k, none⟩)) rfl (by kernel_rfl) (by kernel_rfl) (by kernel_rfl) (fun _ _ _ h => by first | exact h | exact h.elim) (by decide) (fun _ h => h.elim) (fun _ h => h) (Sx.behind (by kernel_rfl) hm0.out) (Or.inl ⟨by rfl, fun uu hu => by go_simp⟩) ?_
            try go_simp
            refine wpAnyX_both (T := fun uu => Below wr.heap.size wr uu) (i := 9) (v := Value.int .i64 x) rfl (by kernel_rfl) (by kernel_rfl) (by kernel_rfl) (fun _ _ _ h => by first | exact h | exact h.elim) (by decide) (fun _ h => h.elim) (fun _ h => h) (Sx.behind (by kernel_rfl) hm0.out) (Or.inl ⟨by rfl, fun uu hu => by have e0 := HXC.out uu hu; go_simp⟩) ?_
            try go_simp
            refine wpAnyX_both (T := fun uu => Below wr.heap.size wr uu) (i := 10) (v := Value.pointer (some ⟨w.heap.size, 0, none⟩)) rfl (by kernel_rfl) (by kernel_rfl) (by kernel_rfl) (fun _ _ _ h => by first | exact h | exact h.elim) (by decide) (fun _ h => h.elim) (fun _ h => h) (Sx.behind (by kernel_rfl) hm0.out) (Or.inl ⟨by rfl, fun uu hu => by go_simp⟩) ?_
            try go_simp
            refine wpAnyX_both (T := fun uu => Below wr.heap.size wr uu) (i := 11) (v := Value.int .i64 (Sn : Int)) rfl (by kernel_rfl) (by kernel_rfl) (by kernel_rfl) (fun _ _ _ h => by first | exact h | exact h.elim) (by decide) (fun _ h => h.elim) (fun _ h => h) (Sx.behind (by kernel_rfl) hm0.out) (Or.inl ⟨by rfl, fun uu hu => by have e0 := HSC.out uu hu; go_simp⟩) ?_
            try go_simp
            refine wpAnyX_both (T := fun uu => Below wr.heap.size wr uu) (i := 12) (v := Value.int .i64 (-(Sn : Int))) rfl (by kernel_rfl) (by kernel_rfl) (by kernel_rfl) (fun _ _ _ h => by first | exact h | exact h.elim) (by decide) (fun _ h => h.elim) (fun _ h => h) (Sx.behind (by kernel_rfl) hm0.out) (Or.inl ⟨by rfl, fun uu hu => by go_simp⟩) ?_
            try go_simp
            refine wpAnyX_both (T := fun uu => Below wr.heap.size wr uu) (i := 13) (v := Value.pointer (some ⟨w.heap.size, 0, none⟩)) rfl (by kernel_rfl) (by kernel_rfl) (by kernel_rfl) (fun _ _ _ h => by first | exact h | exact h.elim) (by decide) (fun _ h => h.elim) (fun _ h => h) (Sx.behind (by kernel_rfl) hm0.out) (Or.inl ⟨by rfl, fun uu hu => by go_simp⟩) ?_
            try go_simp
            refine wpAnyX_both (T := fun uu => Below wr.heap.size wr uu) (i := 14) (v := Value.int .i64 (Sn : Int)) rfl (by kernel_rfl) (by kernel_rfl) (by kernel_rfl) (fun _ _ _ h => by first | exact h | exact h.elim) (by decide) (fun _ h => h.elim) (fun _ h => h) (Sx.behind (by kernel_rfl) hm0.out) (Or.inl ⟨by rfl, fun uu hu => by have e0 := HSC.out uu hu; go_simp⟩) ?_
            try go_simp
            refine wpAnyX_ready (rs := [15]) (by kernel_rfl) (by simp) (AllX.cons rfl (fun K hK => ?_) AllX.nil)
            go_simp
            refine Calls.mono (HI2.out m0 hm0.out) ?_
            rintro e m1 ⟨rfl, hb⟩
            have hm1 : Hid (Below wr.heap.size wr m1) := hm0.out.trans (hb.mono hm0.out.size)
            refine hK _ _ (Sx.behind (by kernel_rfl) hm1.out) ?_
            clear hK K hb
            try go_simp
            refine wpAnyX_both (T := fun uu => Below wr.heap.size wr uu) (i := 16) (v := Value.bool false) rfl (by kernel_rfl) (by kernel_rfl) (by kernel_rfl) (fun _ _ _ h => by first | exact h | exact h.elim) (by decide) (fun _ h => h.elim) (fun _ h => h) (Sx.behind (by kernel_rfl) hm1.out) (Or.inl ⟨by rfl, fun uu hu => by go_simp⟩) ?_
            try go_simp
            refine wpAnyX_both (T := fun uu => Below wr.heap.size wr uu) (i := 17) (v := Value.bool false) rfl (by kernel_rfl) (by kernel_rfl) (by kernel_rfl) (fun _ _ _ h => by first | exact h | exact h.elim) (by decide) (fun _ h => h.elim) (fun _ h => h) (Sx.behind (by kernel_rfl) hm1.out) (Or.inl ⟨by rfl, fun uu hu => by go_simp⟩) ?_
            try go_simp
            refine wpAnyX_both (T := fun uu => Below wr.heap.size wr uu) (i := 18) (v := Value.bool false) rfl (by kernel_rfl) (by kernel_rfl) (by kernel_rfl) (fun _ _ _ h => by first | exact h | exact h.elim) (by decide) (fun _ h => h.elim) (fun _ h => h) (Sx.behind (by kernel_rfl) hm1.out) (Or.inl ⟨by rfl, fun uu hu => by go_simp⟩) ?_
            try go_simp
            refine wpAnyX_both (T := fun uu => Below wr.heap.size wr uu) (i := 19) (v := Value.slice (some ⟨b3, o3, none⟩) ns sc) rfl (by kernel_rfl) (by kernel_rfl) (by kernel_rfl) (fun _ _ _ h => by first | exact h | exact h.elim) (by decide) (fun _ h => h.elim) (fun _ h => h) (Sx.behind (by kernel_rfl) hm1.out) (Or.inl ⟨by rfl, fun uu hu => by go_simp⟩) ?_
            try go_simp
            refine wpAnyX_both (T := fun uu => Below wr.heap.size wr uu) (i := 20) (v := Value.int .i64 (k : Int)) rfl (by kernel_rfl) (by kernel_rfl) (by kernel_rfl) (fun _ _ _ h => by first | exact h | exact h.elim) (by decide) (fun _ h => h.elim) (fun _ h => h) (Sx.behind (by kernel_rfl) hm1.out) (Or.inl ⟨by rfl, fun uu hu => by go_simp⟩) ?_
            try go_simp
            refine wpAnyX_both (T := fun uu => Below wr.heap.size wr uu) (i := 21) (v := Value.slice (some ⟨b3, o3, none⟩) k sc) rfl (by kernel_rfl) (by kernel_rfl) (by kernel_rfl) (fun _ _ _ h => by first | exact h | exact h.elim) (by decide) (fun _ h => h.elim) (fun _ h => h) (Sx.behind (by kernel_rfl) hm1.out) (Or.inl ⟨by rfl, fun uu hu => by go_simp⟩) ?_
            try go_simp
            refine wpAnyX_both (T := fun uu => Below wr.heap.size wr uu) (i := 22) (v := Value.slice (some ⟨b3, o3, none⟩) ns sc) rfl (by kernel_rfl) (by kernel_rfl) (by kernel_rfl) (fun _ _ _ h => by first | exact h | exact h.elim) (by decide) (fun _ h => h.elim) (fun _ h => h) (Sx.behind (by kernel_rfl) hm1.out) (Or.inl ⟨by rfl, fun uu hu => by go_simp⟩) ?_
            try go_simp
            refine wpAnyX_both (T := fun uu => Below wr.heap.size wr uu) (i := 23) (v := Value.int .i64 (k : Int)) rfl (by kernel_rfl) (by kernel_rfl) (by kernel_rfl) (fun _ _ _ h => by first | exact h | exact h.elim) (by decide) (fun _ h => h.elim) (fun _ h => h) (Sx.behind (by kernel_rfl) hm1.out) (Or.inl ⟨by rfl, fun uu hu => by go_simp⟩) ?_
            try go_simp
            refine wpAnyX_both (T := fun uu => Below wr.heap.size wr uu) (i := 24) (v := Value.pointer (some ⟨b3, o3 + k, none⟩)) rfl (by kernel_rfl) (by kernel_rfl) (by kernel_rfl) (fun _ _ _ h => by first | exact h | exact h.elim) (by decide) (fun _ h => h.elim) (fun _ h => h) (Sx.behind (by kernel_rfl) hm1.out) (Or.inl ⟨by rfl, fun uu hu => by go_simp⟩) ?_
            try go_simp
            refine wpAnyX_both (T := fun uu => Below wr.heap.size wr uu) (i := 25) (v := Value.int .i64 x) rfl (by kernel_rfl) (by kernel_rfl) (by kernel_rfl) (fun _ _ _ h => by first | exact h | exact h.elim) (by decide) (fun _ h => h.elim) (fun _ h => h) (Sx.behind (by kernel_rfl) hm1.out) (Or.inl ⟨by rfl, fun uu hu => by have e0 := HXC.out uu hu; go_simp⟩) ?_
            try go_simp
            refine wpAnyX_ready (rs := [26]) (by kernel_rfl) (by simp) (AllX.cons rfl (fun K hK => ?_) AllX.nil)
            go_simp
            refine Calls.mono (H1.out m1 hm1.out) ?_
            rintro e m2 ⟨rfl, hb⟩
            have hm2 : Hid (Below wr.heap.size wr m2) := hm1.out.trans (hb.mono hm1.out.size)
            refine hK _ _ (Sx.behind (by kernel_rfl) hm2.out) ?_
            clear hK K hb
            try go_simp
            refine wpAnyX_both (T := fun uu => Below wr.heap.size wr uu) (i := 27) (v := Value.bool true) rfl (by kernel_rfl) (by kernel_rfl) (by kernel_rfl) (fun _ _ _ h => by first | exact h | exact h.elim) (by decide) (fun _ h => h.elim) (fun _ h => h) (Sx.behind (by kernel_rfl) hm2.out) (Or.inl ⟨by rfl, fun uu hu => by go_simp⟩) ?_
            try go_simp
            refine wpAnyX_both (T := fun uu => Below wr.heap.size wr uu) (i := 28) (v := Value.bool true) rfl (by kernel_rfl) (by kernel_rfl) (by kernel_rfl) (fun _ _ _ h => by first | exact h | exact h.elim) (by decide) (fun _ h => h.elim) (fun _ h => h) (Sx.behind (by kernel_rfl) hm2.out) (Or.inl ⟨by rfl, fun uu hu => by go_simp⟩) ?_
            try go_simp
            refine wpAnyX_both (T := fun uu => Below wr.heap.size wr uu) (i := 29) (v := undef) rfl (by kernel_rfl) (by kernel_rfl) (by kernel_rfl) (fun _ _ _ h => by first | exact h | exact h.elim) (by decide) (fun _ h => h.elim) (fun _ h => h) (Sx.behind (by kernel_rfl) hm2.out) (Or.inr ⟨by rfl, rfl⟩) ?_
            try go_simp
            refine wpAnyX_both (T := fun uu => Below wr.heap.size wr uu) (i := 30) (v := undef) rfl (by kernel_rfl) (by kernel_rfl) (by kernel_rfl) (fun _ _ _ h => by first | exact h | exact h.elim) (by decide) (fun _ h => h.elim) (fun _ h => h) (Sx.behind (by kernel_rfl) hm2.out) (Or.inr ⟨by rfl, rfl⟩) ?_
            try go_simp
            refine wpAnyX_both (T := fun uu => Below wr.heap.size wr uu) (i := 31) (v := undef) rfl (by kernel_rfl) (by kernel_rfl) (by kernel_rfl) (fun _ _ _ h => by first | exact h | exact h.elim) (by decide) (fun _ h => h.elim) (fun _ h => h) (Sx.behind (by kernel_rfl) hm2.out) (Or.inr ⟨by rfl, rfl⟩) ?_
            try go_simp
            refine wpAnyX_both (T := fun uu => Below wr.heap.size wr uu) (i := 32) (v := undef) rfl (by kernel_rfl) (by kernel_rfl) (by kernel_rfl) (fun _ _ _ h => by first | exact h | exact h.elim) (by decide) (fun _ h => h.elim) (fun _ h => h) (Sx.behind (by kernel_rfl) hm2.out) (Or.inr ⟨by rfl, rfl⟩) ?_
            try go_simp
            refine wpAnyX_both (T := fun uu => Below wr.heap.size wr uu) (i := 33) (v := undef) rfl (by kernel_rfl) (by kernel_rfl) (by kernel_rfl) (fun _ _ _ h => by first | exact h | exact h.elim) (by decide) (fun _ h => h.elim) (fun _ h => h) (Sx.behind (by kernel_rfl) hm2.out) (Or.inr ⟨by rfl, rfl⟩) ?_
            try go_simp
            refine wpAnyX_both (T := fun uu => Below wr.heap.size wr uu) (i := 34) (v := undef) rfl (by kernel_rfl) (by kernel_rfl) (by kernel_rfl) (fun _ _ _ h => by first | exact h | exact h.elim) (by decide) (fun _ h => h.elim) (fun _ h => h) (Sx.behind (by kernel_rfl) hm2.out) (Or.inr ⟨by rfl, rfl⟩) ?_
            try go_simp
            refine wpAnyX_both (T := fun uu => Below wr.heap.size wr uu) (i := 35) (v := undef) rfl (by kernel_rfl) (by kernel_rfl) (by kernel_rfl) (fun _ _ _ h => by first | exact h | exact h.elim) (by decide) (fun _ h => h.elim) (fun _ h => h) (Sx.behind (by kernel_rfl) hm2.out) (Or.inr ⟨by rfl, rfl⟩) ?_
            try go_simp
            refine wpAnyX_both (T := fun uu => Below wr.heap.size wr uu) (i := 36) (v := undef) rfl (by kernel_rfl) (by kernel_rfl) (by kernel_rfl) (fun _ _ _ h => by first | exact h | exact h.elim) (by decide) (fun _ h => h.elim) (fun _ h => h) (Sx.behind (by kernel_rfl) hm2.out) (Or.inr ⟨by rfl, rfl⟩) ?_
            try go_simp
            refine wpAnyX_both (T := fun uu => Below wr.heap.size wr uu) (i := 37) (v := undef) rfl (by kernel_rfl) (by kernel_rfl) (by kernel_rfl) (fun _ _ _ h => by first | exact h | exact h.elim) (by decide) (fun _ h => h.elim) (fun _ h => h) (Sx.behind (by kernel_rfl) hm2.out) (Or.inr ⟨by rfl, rfl⟩) ?_
            try go_simp
            refine wpAnyX_both (T := fun uu => Below wr.heap.size wr uu) (i := 38) (v := Value.bool true) rfl (by kernel_rfl) (by kernel_rfl) (by kernel_rfl) (fun _ _ _ h => by first | exact h | exact h.elim) (by decide) (fun _ h => h.elim) (fun _ h => h) (Sx.behind (by kernel_rfl) hm2.out) (Or.inl ⟨by rfl, fun uu hu => by go_simp⟩) ?_
            try go_simp
            refine wpAnyX_done (by kernel_rfl) ?_ _
            go_wp2_with fail
            have BD := HB.out.trans (hm2.out.mono HB.out.size)
            exact bodyPost_ret (v := .tuple #[.slice (some ⟨m2.heap.size, 0, none⟩) 0 0, .bool false]) (by simp [results, Tryd.results8, go_sem]) rfl (by rw [HF.out]; exact NIL.out _ BD)
          | false =>
            rw [hm1] at H1
            cases hm2 : decide (-x ∈ set.take k) with
            | true =>
              rw [hm2] at H2
              have HF : Hid (R = ([], false)) := by
                show _ = _
                rw [← HR.out, if_neg]
                rintro ⟨-, h⟩
                rw [setR_no EX.out (.inr (.inr (of_decide_eq_true hm2)))] at h
                cases h
              clear hx0 hdd hm1 hm2
              go_wp2_with fail
              refine wp_region_x (SA := fun _ => False) (SB := fun uu => Below wr.heap.size wr uu) (k := 999) (by kernel_rfl) ?_
              have hm0 : Hid (Below wr.heap.size wr wr.drew) := (Below.refl _ _).drew
              generalize wr.drew = m0 at *
              try go_simp
              refine wpAnyX_both (T := fun uu => Below wr.heap.size wr uu) (i := 0) (v := Value.slice (some ⟨b3, o3, none⟩) ns sc) rfl (by kernel_rfl) (by kernel_rfl) (by kernel_rfl) (fun _ _ _ h => by first | exact h | exact h.elim) (by decide) (fun _ h => h.elim) (fun _ h => h) (Sx.behind (by kernel_rfl) hm0.out) (Or.inl ⟨by rfl, fun uu hu => by go_simp⟩) ?_
              try go_simp
              refine wpAnyX_both (T := fun uu => Below wr.heap.size wr uu) (i := 1) (v := Value.int .i64 (k : Int)) rfl (by kernel_rfl) (by kernel_rfl) (by kernel_rfl) (fun _ _ _ h => by first | exact h | exact h.elim) (by decide) (fun _ h => h.elim) (fun _ h => h) (Sx.behind (by kernel_rfl) hm0.out) (Or.inl ⟨by rfl, fun uu hu => by go_simp⟩) ?_
              try go_simp
              refine wpAnyX_both (T := fun uu => Below wr.heap.size wr uu) (i := 2) (v := Value.pointer (some ⟨b3, o3 + k, none⟩)) rfl (by kernel_rfl) (by kernel_rfl) (by kernel_rfl) (fun _ _ _ h => by first | exact h | exact h.elim) (by decide) (fun _ h => h.elim) (fun _ h => h) (Sx.behind (by kernel_rfl) hm0.out) (Or.inl ⟨by rfl, fun uu hu => by go_simp⟩) ?_
              try go_simp
              refine wpAnyX_both (T := fun uu => Below wr.heap.size wr uu) (i := 3) (v := Value.int .i64 x) rfl (by kernel_rfl) (by kernel_rfl) (by kernel_rfl) (fun _ _ _ h => by first | exact h | exact h.elim) (by decide) (fun _ h => h.elim) (fun _ h => h) (Sx.behind (by kernel_rfl) hm0.out) (Or.inl ⟨by rfl, fun uu hu => by have e0 := HXC.out uu hu; go_simp⟩) ?_
              try go_simp
              refine wpAnyX_both (T := fun uu => Below wr.heap.size wr uu) (i := 4) (v := Value.bool false) rfl (by kernel_rfl) (by kernel_rfl) (by kernel_rfl) (fun _ _ _ h => by first | exact h | exact h.elim) (by decide) (fun _ h => h.elim) (fun _ h => h) (Sx.behind (by kernel_rfl) hm0.out) (Or.inl ⟨by rfl, fun uu hu => by go_simp⟩) ?_
              try go_simp
              refine wpAnyX_both (T := fun uu => Below wr.heap.size wr uu) (i := 5) (v := Value.bool false) rfl (by kernel_rfl) (by kernel_rfl) (by kernel_rfl) (fun _ _ _ h => by first | exact h | exact h.elim) (by decide) (fun _ h => h.elim) (fun _ h => h) (Sx.behind (by kernel_rfl) hm0.out) (Or.inl ⟨by rfl, fun uu hu => by go_simp⟩) ?_
              try go_simp
              refine wpAnyX_both (T := fun uu => Below wr.heap.size wr uu) (i := 6) (v := Value.slice (some ⟨b3, o3, none⟩) ns sc) rfl (by kernel_rfl) (by kernel_rfl) (by kernel_rfl) (fun _ _ _ h => by first | exact h | exact h.elim) (by decide) (fun _ h => h.elim) (fun _ h => h) (Sx.behind (by kernel_rfl) hm0.out) (Or.inl ⟨by rfl, fun uu hu => by go_simp⟩) ?_
              try go_simp
              refine wpAnyX_both (T := fun uu => Below wr.heap.size wr uu) (i := 7) (v := Value.int .i64 (k : Int)) rfl (by kernel_rfl) (by kernel_rfl) (by kernel_rfl) (fun _ _ _ h => by first | exact h | exact h.elim) (by decide) (fun _ h => h.elim) (fun _ h => h) (Sx.behind (by kernel_rfl) hm0.out) (Or.inl ⟨by rfl, fun uu hu => by go_simp⟩) ?_
              try go_simp
              refine wpAnyX_both (T := fun uu => Below wr.heap.size wr uu) (i := 8) (v := Value.pointer (some ⟨b3, o3 + k, none⟩)) rfl (by kernel_rfl) (by kernel_rfl) (by kernel_rfl) (fun _ _ _ h => by first | exact h | exact h.elim) (by decide) (fun _ h => h.elim) (fun _ h => h) (Sx.behind (by kernel_rfl) hm0.out) (Or.inl ⟨by rfl, fun uu hu => by go_simp⟩) ?_
              try go_simp
              refine wpAnyX_both (T := fun uu => Below wr.heap.size wr uu) (i := 9) (v := Value.int .i64 x) rfl (by kernel_rfl) (by kernel_rfl) (by kernel_rfl) (fun _ _ _ h => by first | exact h | exact h.elim) (by decide) (fun _ h => h.elim) (fun _ h => h) (Sx.behind (by kernel_rfl) hm0.out) (Or.inl ⟨by rfl, fun uu hu => by have e0 := HXC.out uu hu; go_simp⟩) ?_
              try go_simp
              refine wpAnyX_both (T := fun uu => Below wr.heap.size wr uu) (i := 10) (v := Value.pointer (some ⟨w.heap.size, 0, none⟩)) rfl (by kernel_rfl) (by kernel_rfl) (by kernel_rfl) (fun _ _ _ h => by first | exact h | exact h.elim) (by decide) (fun _ h => h.elim) (fun _ h => h) (Sx.behind (by kernel_rfl) hm0.out) (Or.inl ⟨by rfl, fun uu hu => by go_simp⟩) ?_
              try go_simp
              refine wpAnyX_both (T := fun uu => Below wr.heap.size wr uu) (i := 11) (v := Value.int .i64 (Sn : Int)) rfl (by kernel_rfl) (by kernel_rfl) (by kernel_rfl) (fun _ _ _ h => by first | exact h | exact h.elim) (by decide) (fun _ h => h.elim) (fun _ h => h) (Sx.behind (by kernel_rfl) hm0.out) (Or.inl ⟨by rfl, fun uu hu => by have e0 := HSC.out uu hu; go_simp⟩) ?_
              try go_simp
              refine wpAnyX_both (T := fun uu => Below wr.heap.size wr uu) (i := 12) (v := Value.int .i64 (-(Sn : Int))) rfl (by kernel_rfl) (by kernel_rfl) (by kernel_rfl) (fun _ _ _ h => by first | exact h | exact h.elim) (by decide) (fun _ h => h.elim) (fun _ h => h) (Sx.behind (by kernel_rfl) hm0.out) (Or.inl ⟨by rfl, fun uu hu => by go_simp⟩) ?_
              try go_simp
              refine wpAnyX_both (T := fun uu => Below wr.heap.size wr uu) (i := 13) (v := Value.pointer (some ⟨w.heap.size, 0, none⟩)) rfl (by kernel_rfl) (by kernel_rfl) (by kernel_rfl) (fun _ _ _ h => by first | exact h | exact h.elim) (by decide) (fun _ h => h.elim) (fun _ h => h) (Sx.behind (by kernel_rfl) hm0.out) (Or.inl ⟨by rfl, fun uu hu => by go_simp⟩) ?_
              try go_simp
              refine wpAnyX_both (T := fun uu => Below wr.heap.size wr uu) (i := 14) (v := Value.int .i64 (Sn : Int)) rfl (by kernel_rfl) (by kernel_rfl) (by kernel_rfl) (fun _ _ _ h => by first | exact h | exact h.elim) (by decide) (fun _ h => h.elim) (fun _ h => h) (Sx.behind (by kernel_rfl) hm0.out) (Or.inl ⟨by rfl, fun uu hu => by have e0 := HSC.out uu hu; go_simp⟩) ?_
              try go_simp
              refine wpAnyX_ready (rs := [15]) (by kernel_rfl) (by simp) (AllX.cons rfl (fun K hK => ?_) AllX.nil)
              go_simp
              refine Calls.mono (HI2.out m0 hm0.out) ?_
              rintro e m1 ⟨rfl, hb⟩
              have hm1 : Hid (Below wr.heap.size wr m1) := hm0.out.trans (hb.mono hm0.out.size)
              refine hK _ _ (Sx.behind (by kernel_rfl) hm1.out) ?_
              clear hK K hb
              try go_simp
              refine wpAnyX_both (T := fun uu => Below wr.heap.size wr uu) (i := 16) (v := Value.bool false) rfl (by kernel_rfl) (by kernel_rfl) (by kernel_rfl) (fun _ _ _ h => by first | exact h | exact h.elim) (by decide) (fun _ h => h.elim) (fun _ h => h) (Sx.behind (by kernel_rfl) hm1.out) (Or.inl ⟨by rfl, fun uu hu => by go_simp⟩) ?_
              try go_simp
              refine wpAnyX_both (T := fun uu => Below wr.heap.size wr uu) (i := 17) (v := Value.bool false) rfl (by kernel_rfl) (by kernel_rfl) (by kernel_rfl) (fun _ _ _ h => by first | exact h | exact h.elim) (by decide) (fun _ h => h.elim) (fun _ h => h) (Sx.behind (by kernel_rfl) hm1.out) (Or.inl ⟨by rfl, fun uu hu => by go_simp⟩) ?_
              try go_simp
              refine wpAnyX_both (T := fun uu => Below wr.heap.size wr uu) (i := 18) (v := Value.bool false) rfl (by kernel_rfl) (by kernel_rfl) (by kernel_rfl) (fun _ _ _ h => by first | exact h | exact h.elim) (by decide) (fun _ h => h.elim) (fun _ h => h) (Sx.behind (by kernel_rfl) hm1.out) (Or.inl ⟨by rfl, fun uu hu => by go_simp⟩) ?_
              try go_simp
              refine wpAnyX_both (T := fun uu => Below wr.heap.size wr uu) (i := 19) (v := Value.slice (some ⟨b3, o3, none⟩) ns sc) rfl (by kernel_rfl) (by kernel_rfl) (by kernel_rfl) (fun _ _ _ h => by first | exact h | exact h.elim) (by decide) (fun _ h => h.elim) (fun _ h => h) (Sx.behind (by kernel_rfl) hm1.out) (Or.inl ⟨by rfl, fun uu hu => by go_simp⟩) ?_
              try go_simp
              refine wpAnyX_both (T := fun uu => Below wr.heap.size wr uu) (i := 20) (v := Value.int .i64 (k : Int)) rfl (by kernel_rfl) (by kernel_rfl) (by kernel_rfl) (fun _ _ _ h => by first | exact h | exact h.elim) (by decide) (fun _ h => h.elim) (fun _ h => h) (Sx.behind (by kernel_rfl) hm1.out) (Or.inl ⟨by rfl, fun uu hu => by go_simp⟩) ?_
              try go_simp
              refine wpAnyX_both (T := fun uu => Below wr.heap.size wr uu) (i := 21) (v := Value.slice (some ⟨b3, o3, none⟩) k sc) rfl (by kernel_rfl) (by kernel_rfl) (by kernel_rfl) (fun _ _ _ h => by first | exact h | exact h.elim) (by decide) (fun _ h => h.elim) (fun _ h => h) (Sx.behind (by kernel_rfl) hm1.out) (Or.inl ⟨by rfl, fun uu hu => by go_simp⟩) ?_
              try go_simp
              refine wpAnyX_both (T := fun uu => Below wr.heap.size wr uu) (i := 22) (v := Value.slice (some ⟨b3, o3, none⟩) ns sc) rfl (by kernel_rfl) (by kernel_rfl) (by kernel_rfl) (fun _ _ _ h => by first | exact h | exact h.elim) (by decide) (fun _ h => h.elim) (fun _ h => h) (Sx.behind (by kernel_rfl) hm1.out) (Or.inl ⟨by rfl, fun uu hu => by go_simp⟩) ?_
              try go_simp
              refine wpAnyX_both (T := fun uu => Below wr.heap.size wr uu) (i := 23) (v := Value.int .i64 (k : Int)) rfl (by kernel_rfl) (by kernel_rfl) (by kernel_rfl) (fun _ _ _ h => by first | exact h | exact h.elim) (by decide) (fun _ h => h.elim) (fun _ h => h) (Sx.behind (by kernel_rfl) hm1.out) (Or.inl ⟨by rfl, fun uu hu => by go_simp⟩) ?_
              try go_simp
              refine wpAnyX_both (T := fun uu => Below wr.heap.size wr uu) (i := 24) (v := Value.pointer (some ⟨b3, o3 + k, none⟩)) rfl (by kernel_rfl) (by kernel_rfl) (by kernel_rfl) (fun _ _ _ h => by first | exact h | exact h.elim) (by decide) (fun _ h => h.elim) (fun _ h => h) (Sx.behind (by kernel_rfl) hm1.out) (Or.inl ⟨by rfl, fun uu hu => by go_simp⟩) ?_
              try go_simp
              refine wpAnyX_both (T := fun uu => Below wr.heap.size wr uu) (i := 25) (v := Value.int .i64 x) rfl (by kernel_rfl) (by kernel_rfl) (by kernel_rfl) (fun _ _ _ h => by first | exact h | exact h.elim) (by decide) (fun _ h => h.elim) (fun _ h => h) (Sx.behind (by kernel_rfl) hm1.out) (Or.inl ⟨by rfl, fun uu hu => by have e0 := HXC.out uu hu; go_simp⟩) ?_
              try go_simp
              refine wpAnyX_ready (rs := [26]) (by kernel_rfl) (by simp) (AllX.cons rfl (fun K hK => ?_) AllX.nil)
              go_simp
              refine Calls.mono (H1.out m1 hm1.out) ?_
              rintro e m2 ⟨rfl, hb⟩
              have hm2 : Hid (Below wr.heap.size wr m2) := hm1.out.trans (hb.mono hm1.out.size)
              refine hK _ _ (Sx.behind (by kernel_rfl) hm2.out) ?_
              clear hK K hb
              try go_simp
              refine wpAnyX_both (T := fun uu => Below wr.heap.size wr uu) (i := 27) (v := Value.bool false) rfl (by kernel_rfl) (by kernel_rfl) (by kernel_rfl) (fun _ _ _ h => by first | exact h | exact h.elim) (by decide) (fun _ h => h.elim) (fun _ h => h) (Sx.behind (by kernel_rfl) hm2.out) (Or.inl ⟨by rfl, fun uu hu => by go_simp⟩) ?_
              try go_simp
              refine wpAnyX_both (T := fun uu => Below wr.heap.size wr uu) (i := 28) (v := Value.bool false) rfl (by kernel_rfl) (by kernel_rfl) (by kernel_rfl) (fun _ _ _ h => by first | exact h | exact h.elim) (by decide) (fun _ h => h.elim) (fun _ h => h) (Sx.behind (by kernel_rfl) hm2.out) (Or.inl ⟨by rfl, fun uu hu => by go_simp⟩) ?_
              try go_simp
              refine wpAnyX_both (T := fun uu => Below wr.heap.size wr uu) (i := 29) (v := Value.slice (some ⟨b3, o3, none⟩) ns sc) rfl (by kernel_rfl) (by kernel_rfl) (by kernel_rfl) (fun _ _ _ h => by first | exact h | exact h.elim) (by decide) (fun _ h => h.elim) (fun _ h => h) (Sx.behind (by kernel_rfl) hm2.out) (Or.inl ⟨by rfl, fun uu hu => by go_simp⟩) ?_
              try go_simp
              refine wpAnyX_both (T := fun uu => Below wr.heap.size wr uu) (i := 30) (v := Value.int .i64 (k : Int)) rfl (by kernel_rfl) (by kernel_rfl) (by kernel_rfl) (fun _ _ _ h => by first | exact h | exact h.elim) (by decide) (fun _ h => h.elim) (fun _ h => h) (Sx.behind (by kernel_rfl) hm2.out) (Or.inl ⟨by rfl, fun uu hu => by go_simp⟩) ?_
              try go_simp
              refine wpAnyX_both (T := fun uu => Below wr.heap.size wr uu) (i := 31) (v := Value.slice (some ⟨b3, o3, none⟩) k sc) rfl (by kernel_rfl) (by kernel_rfl) (by kernel_rfl) (fun _ _ _ h => by first | exact h | exact h.elim) (by decide) (fun _ h => h.elim) (fun _ h => h) (Sx.behind (by kernel_rfl) hm2.out) (Or.inl ⟨by rfl, fun uu hu => by go_simp⟩) ?_
              try go_simp
              refine wpAnyX_both (T := fun uu => Below wr.heap.size wr uu) (i := 32) (v := Value.slice (some ⟨b3, o3, none⟩) ns sc) rfl (by kernel_rfl) (by kernel_rfl) (by kernel_rfl) (fun _ _ _ h => by first | exact h | exact h.elim) (by decide) (fun _ h => h.elim) (fun _ h => h) (Sx.behind (by kernel_rfl) hm2.out) (Or.inl ⟨by rfl, fun uu hu => by go_simp⟩) ?_
              try go_simp
              refine wpAnyX_both (T := fun uu => Below wr.heap.size wr uu) (i := 33) (v := Value.int .i64 (k : Int)) rfl (by kernel_rfl) (by kernel_rfl) (by kernel_rfl) (fun _ _ _ h => by first | exact h | exact h.elim) (by decide) (fun _ h => h.elim) (fun _ h => h) (Sx.behind (by kernel_rfl) hm2.out) (Or.inl ⟨by rfl, fun uu hu => by go_simp⟩) ?_
              try go_simp
              refine wpAnyX_both (T := fun uu => Below wr.heap.size wr uu) (i := 34) (v := Value.pointer (some ⟨b3, o3 + k, none⟩)) rfl (by kernel_rfl) (by kernel_rfl) (by kernel_rfl) (fun _ _ _ h => by first | exact h | exact h.elim) (by decide) (fun _ h => h.elim) (fun _ h => h) (Sx.behind (by kernel_rfl) hm2.out) (Or.inl ⟨by rfl, fun uu hu => by go_simp⟩) ?_
              try go_simp
              refine wpAnyX_both (T := fun uu => Below wr.heap.size wr uu) (i := 35) (v := Value.int .i64 x) rfl (by kernel_rfl) (by kernel_rfl) (by kernel_rfl) (fun _ _ _ h => by first | exact h | exact h.elim) (by decide) (fun _ h => h.elim) (fun _ h => h) (Sx.behind (by kernel_rfl) hm2.out) (Or.inl ⟨by rfl, fun uu hu => by have e0 := HXC.out uu hu; go_simp⟩) ?_
              try go_simp
              refine wpAnyX_both (T := fun uu => Below wr.heap.size wr uu) (i := 36) (v := Value.int .i64 (-x)) rfl (by kernel_rfl) (by kernel_rfl) (by kernel_rfl) (fun _ _ _ h => by first | exact h | exact h.elim) (by decide) (fun _ h => h.elim) (fun _ h => h) (Sx.behind (by kernel_rfl) hm2.out) (Or.inl ⟨by rfl, fun uu hu => by go_simp⟩) ?_
              try go_simp
              refine wpAnyX_ready (rs := [37]) (by kernel_rfl) (by simp) (AllX.cons rfl (fun K hK => ?_) AllX.nil)
              go_simp
              refine Calls.mono (H2.out m2 hm2.out) ?_
              rintro e m3 ⟨rfl, hb⟩
              have hm3 : Hid (Below wr.heap.size wr m3) := hm2.out.trans (hb.mono hm2.out.size)
              refine hK _ _ (Sx.behind (by kernel_rfl) hm3.out) ?_
              clear hK K hb
              try go_simp
              refine wpAnyX_both (T := fun uu => Below wr.heap.size wr uu) (i := 38) (v := Value.bool true) rfl (by kernel_rfl) (by kernel_rfl) (by kernel_rfl) (fun _ _ _ h => by first | exact h | exact h.elim) (by decide) (fun _ h => h.elim) (fun _ h => h) (Sx.behind (by kernel_rfl) hm3.out) (Or.inl ⟨by rfl, fun uu hu => by go_simp⟩) ?_
              try go_simp
              refine wpAnyX_done (by kernel_rfl) ?_ _
              go_wp2_with fail
              have BD := HB.out.trans (hm3.out.mono HB.out.size)
              exact bodyPost_ret (v := .tuple #[.slice (some ⟨m3.heap.size, 0, none⟩) 0 0, .bool false]) (by simp [results, Tryd.results8, go_sem]) rfl (by rw [HF.out]; exact NIL.out _ BD)
            | false =>
              rw [hm2] at H2
              have NP : Hid (∀ (j : Nat) y, j < k + 1 → set[j]? = some y → numR (Sn : Int) y = true ∧ y ∉ set.take j ∧ -y ∉ set.take j) := fun j y hj hy => by
                by_cases e : j < k
                · exact HP.out j y e hy
                · obtain rfl : j = k := by omega
                  rw [EX.out] at hy
                  obtain rfl := Option.some.inj hy
                  exact ⟨HNU.out, of_decide_eq_false hm1, of_decide_eq_false hm2⟩
              clear hx0 hdd hm1 hm2
              go_wp2_with fail
              refine wp_region_x (SA := fun _ => False) (SB := fun uu => Below wr.heap.size wr uu) (k := 999) (by kernel_rfl) ?_
              have hm0 : Hid (Below wr.heap.size wr wr.drew) := (Below.refl _ _).drew
              generalize wr.drew = m0 at *
              try go_simp
              refine wpAnyX_both (T := fun uu => Below wr.heap.size wr uu) (i := 0) (v := Value.slice (some ⟨b3, o3, none⟩) ns sc) rfl (by kernel_rfl) (by kernel_rfl) (by kernel_rfl) (fun _ _ _ h => by first | exact h | exact h.elim) (by decide) (fun _ h => h.elim) (fun _ h => h) (Sx.behind (by kernel_rfl) hm0.out) (Or.inl ⟨by rfl, fun uu hu => by go_simp⟩) ?_
              try go_simp
              refine wpAnyX_both (T := fun uu => Below wr.heap.size wr uu) (i := 1) (v := Value.int .i64 (k : Int)) rfl (by kernel_rfl) (by kernel_rfl) (by kernel_rfl) (fun _ _ _ h => by first | exact h | exact h.elim) (by decide) (fun _ h => h.elim) (fun _ h => h) (Sx.behind (by kernel_rfl) hm0.out) (Or.inl ⟨by rfl, fun uu hu => by go_simp⟩) ?_
              try go_simp
              refine wpAnyX_both (T := fun uu => Below wr.heap.size wr uu) (i := 2) (v := Value.pointer (some ⟨b3, o3 + k, none⟩)) rfl (by kernel_rfl) (by kernel_rfl) (by kernel_rfl) (fun _ _ _ h => by first | exact h | exact h.elim) (by decide) (fun _ h => h.elim) (fun _ h => h) (Sx.behind (by kernel_rfl) hm0.out) (Or.inl ⟨by rfl, fun uu hu => by go_simp⟩) ?_
              try go_simp
              refine wpAnyX_both (T := fun uu => Below wr.heap.size wr uu) (i := 3) (v := Value.int .i64 x) rfl (by kernel_rfl) (by kernel_rfl) (by kernel_rfl) (fun _ _ _ h => by first | exact h | exact h.elim) (by decide) (fun _ h => h.elim) (fun _ h => h) (Sx.behind (by kernel_rfl) hm0.out) (Or.inl ⟨by rfl, fun uu hu => by have e0 := HXC.out uu hu; go_simp⟩) ?_
              try go_simp
              refine wpAnyX_both (T := fun uu => Below wr.heap.size wr uu) (i := 4) (v := Value.bool false) rfl (by kernel_rfl) (by kernel_rfl) (by kernel_rfl) (fun _ _ _ h => by first | exact h | exact h.elim) (by decide) (fun _ h => h.elim) (fun _ h => h) (Sx.behind (by kernel_rfl) hm0.out) (Or.inl ⟨by rfl, fun uu hu => by go_simp⟩) ?_
              try go_simp
              refine wpAnyX_both (T := fun uu => Below wr.heap.size wr uu) (i := 5) (v := Value.bool false) rfl (by kernel_rfl) (by kernel_rfl) (by kernel_rfl) (fun _ _ _ h => by first | exact h | exact h.elim) (by decide) (fun _ h => h.elim) (fun _ h => h) (Sx.behind (by kernel_rfl) hm0.out) (Or.inl ⟨by rfl, fun uu hu => by go_simp⟩) ?_
              try go_simp
              refine wpAnyX_both (T := fun uu => Below wr.heap.size wr uu) (i := 6) (v := Value.slice (some ⟨b3, o3, none⟩) ns sc) rfl (by kernel_rfl) (by kernel_rfl) (by kernel_rfl) (fun _ _ _ h => by first | exact h | exact h.elim) (by decide) (fun _ h => h.elim) (fun _ h => h) (Sx.behind (by kernel_rfl) hm0.out) (Or.inl ⟨by rfl, fun uu hu => by go_simp⟩) ?_
              try go_simp
              refine wpAnyX_both (T := fun uu => Below wr.heap.size wr uu) (i := 7) (v := Value.int .i64 (k : Int)) rfl (by kernel_rfl) (by kernel_rfl) (by kernel_rfl) (fun _ _ _ h => by first | exact h | exact h.elim) (by decide) (fun _ h => h.elim) (fun _ h => h) (Sx.behind (by kernel_rfl) hm0.out) (Or.inl ⟨by rfl, fun uu hu => by go_simp⟩) ?_
              try go_simp
              refine wpAnyX_both (T := fun uu => Below wr.heap.size wr uu) (i := 8) (v := Value.pointer (some ⟨b3, o3 + k, none⟩)) rfl (by kernel_rfl) (by kernel_rfl) (by kernel_rfl) (fun _ _ _ h => by first | exact h | exact h.elim) (by decide) (fun _ h => h.elim) (fun _ h => h) (Sx.behind (by kernel_rfl) hm0.out) (Or.inl ⟨by rfl, fun uu hu => by go_simp⟩) ?_
              try go_simp
              refine wpAnyX_both (T := fun uu => Below wr.heap.size wr uu) (i := 9) (v := Value.int .i64 x) rfl (by kernel_rfl) (by kernel_rfl) (by kernel_rfl) (fun _ _ _ h => by first | exact h | exact h.elim) (by decide) (fun _ h => h.elim) (fun _ h => h) (Sx.behind (by kernel_rfl) hm0.out) (Or.inl ⟨by rfl, fun uu hu => by have e0 := HXC.out uu hu; go_simp⟩) ?_
              try go_simp
              refine wpAnyX_both (T := fun uu => Below wr.heap.size wr uu) (i := 10) (v := Value.pointer (some ⟨w.heap.size, 0, none⟩)) rfl (by kernel_rfl) (by kernel_rfl) (by kernel_rfl) (fun _ _ _ h => by first | exact h | exact h.elim) (by decide) (fun _ h => h.elim) (fun _ h => h) (Sx.behind (by kernel_rfl) hm0.out) (Or.inl ⟨by rfl, fun uu hu => by go_simp⟩) ?_
              try go_simp
              refine wpAnyX_both (T := fun uu => Below wr.heap.size wr uu) (i := 11) (v := Value.int .i64 (Sn : Int)) rfl (by kernel_rfl) (by kernel_rfl) (by kernel_rfl) (fun _ _ _ h => by first | exact h | exact h.elim) (by decide) (fun _ h => h.elim) (fun _ h => h) (Sx.behind (by kernel_rfl) hm0.out) (Or.inl ⟨by rfl, fun uu hu => by have e0 := HSC.out uu hu; go_simp⟩) ?_
              try go_simp
              refine wpAnyX_both (T := fun uu => Below wr.heap.size wr uu) (i := 12) (v := Value.int .i64 (-(Sn : Int))) rfl (by kernel_rfl) (by kernel_rfl) (by kernel_rfl) (fun _ _ _ h => by first | exact h | exact h.elim) (by decide) (fun _ h => h.elim) (fun _ h => h) (Sx.behind (by kernel_rfl) hm0.out) (Or.inl ⟨by rfl, fun uu hu => by go_simp⟩) ?_
              try go_simp
              refine wpAnyX_both (T := fun uu => Below wr.heap.size wr uu) (i := 13) (v := Value.pointer (some ⟨w.heap.size, 0, none⟩)) rfl (by kernel_rfl) (by kernel_rfl) (by kernel_rfl) (fun _ _ _ h => by first | exact h | exact h.elim) (by decide) (fun _ h => h.elim) (fun _ h => h) (Sx.behind (by kernel_rfl) hm0.out) (Or.inl ⟨by rfl, fun uu hu => by go_simp⟩) ?_
              try go_simp
              refine wpAnyX_both (T := fun uu => Below wr.heap.size wr uu) (i := 14) (v := Value.int .i64 (Sn : Int)) rfl (by kernel_rfl) (by kernel_rfl) (by kernel_rfl) (fun _ _ _ h => by first | exact h | exact h.elim) (by decide) (fun _ h => h.elim) (fun _ h => h) (Sx.behind (by kernel_rfl) hm0.out) (Or.inl ⟨by rfl, fun uu hu => by have e0 := HSC.out uu hu; go_simp⟩) ?_
              try go_simp
              refine wpAnyX_ready (rs := [15]) (by kernel_rfl) (by simp) (AllX.cons rfl (fun K hK => ?_) AllX.nil)
              go_simp
              refine Calls.mono (HI2.out m0 hm0.out) ?_
              rintro e m1 ⟨rfl, hb⟩
              have hm1 : Hid (Below wr.heap.size wr m1) := hm0.out.trans (hb.mono hm0.out.size)
              refine hK _ _ (Sx.behind (by kernel_rfl) hm1.out) ?_
              clear hK K hb
              try go_simp
              refine wpAnyX_both (T := fun uu => Below wr.heap.size wr uu) (i := 16) (v := Value.bool false) rfl (by kernel_rfl) (by kernel_rfl) (by kernel_rfl) (fun _ _ _ h => by first | exact h | exact h.elim) (by decide) (fun _ h => h.elim) (fun _ h => h) (Sx.behind (by kernel_rfl) hm1.out) (Or.inl ⟨by rfl, fun uu hu => by go_simp⟩) ?_
              try go_simp
              refine wpAnyX_both (T := fun uu => Below wr.heap.size wr uu) (i := 17) (v := Value.bool false) rfl (by kernel_rfl) (by kernel_rfl) (by kernel_rfl) (fun _ _ _ h => by first | exact h | exact h.elim) (by decide) (fun _ h => h.elim) (fun _ h => h) (Sx.behind (by kernel_rfl) hm1.out) (Or.inl ⟨by rfl, fun uu hu => by go_simp⟩) ?_
              try go_simp
              refine wpAnyX_both (T := fun uu => Below wr.heap.size wr uu) (i := 18) (v := Value.bool false) rfl (by kernel_rfl) (by kernel_rfl) (by kernel_rfl) (fun _ _ _ h => by first | exact h | exact h.elim) (by decide) (fun _ h => h.elim) (fun _ h => h) (Sx.behind (by kernel_rfl) hm1.out) (Or.inl ⟨by rfl, fun uu hu => by go_simp⟩) ?_
              try go_simp
              refine wpAnyX_both (T := fun uu => Below wr.heap.size wr uu) (i := 19) (v := Value.slice (some ⟨b3, o3, none⟩) ns sc) rfl (by kernel_rfl) (by kernel_rfl) (by kernel_rfl) (fun _ _ _ h => by first | exact h | exact h.elim) (by decide) (fun _ h => h.elim) (fun _ h => h) (Sx.behind (by kernel_rfl) hm1.out) (Or.inl ⟨by rfl, fun uu hu => by go_simp⟩) ?_
              try go_simp
              refine wpAnyX_both (T := fun uu => Below wr.heap.size wr uu) (i := 20) (v := Value.int .i64 (k : Int)) rfl (by kernel_rfl) (by kernel_rfl) (by kernel_rfl) (fun _ _ _ h => by first | exact h | exact h.elim) (by decide) (fun _ h => h.elim) (fun _ h => h) (Sx.behind (by kernel_rfl) hm1.out) (Or.inl ⟨by rfl, fun uu hu => by go_simp⟩) ?_
              try go_simp
              refine wpAnyX_both (T := fun uu => Below wr.heap.size wr uu) (i := 21) (v := Value.slice (some ⟨b3, o3, none⟩) k sc) rfl (by kernel_rfl) (by kernel_rfl) (by kernel_rfl) (fun _ _ _ h => by first | exact h | exact h.elim) (by decide) (fun _ h => h.elim) (fun _ h => h) (Sx.behind (by kernel_rfl) hm1.out) (Or.inl ⟨by rfl, fun uu hu => by go_simp⟩) ?_
              try go_simp
              refine wpAnyX_both (T := fun uu => Below wr.heap.size wr uu) (i := 22) (v := Value.slice (some ⟨b3, o3, none⟩) ns sc) rfl (by kernel_rfl) (by kernel_rfl) (by kernel_rfl) (fun _ _ _ h => by first | exact h | exact h.elim) (by decide) (fun _ h => h.elim) (fun _ h => h) (Sx.behind (by kernel_rfl) hm1.out) (Or.inl ⟨by rfl, fun uu hu => by go_simp⟩) ?_
              try go_simp
              refine wpAnyX_both (T := fun uu => Below wr.heap.size wr uu) (i := 23) (v := Value.int .i64 (k : Int)) rfl (by kernel_rfl) (by kernel_rfl) (by kernel_rfl) (fun _ _ _ h => by first | exact h | exact h.elim) (by decide) (fun _ h => h.elim) (fun _ h => h) (Sx.behind (by kernel_rfl) hm1.out) (Or.inl ⟨by rfl, fun uu hu => by go_simp⟩) ?_
              try go_simp
              refine wpAnyX_both (T := fun uu => Below wr.heap.size wr uu) (i := 24) (v := Value.pointer (some ⟨b3, o3 + k, none⟩)) rfl (by kernel_rfl) (by kernel_rfl) (by kernel_rfl) (fun _ _ _ h => by first | exact h | exact h.elim) (by decide) (fun _ h => h.elim) (fun _ h => h) (Sx.behind (by kernel_rfl) hm1.out) (Or.inl ⟨by rfl, fun uu hu => by go_simp⟩) ?_
              try go_simp
              refine wpAnyX_both (T := fun uu => Below wr.heap.size wr uu) (i := 25) (v := Value.int .i64 x) rfl (by kernel_rfl) (by kernel_rfl) (by kernel_rfl) (fun _ _ _ h => by first | exact h | exact h.elim) (by decide) (fun _ h => h.elim) (fun _ h => h) (Sx.behind (by kernel_rfl) hm1.out) (Or.inl ⟨by rfl, fun uu hu => by have e0 := HXC.out uu hu; go_simp⟩) ?_
              try go_simp
              refine wpAnyX_ready (rs := [26]) (by kernel_rfl) (by simp) (AllX.cons rfl (fun K hK => ?_) AllX.nil)
              go_simp
              refine Calls.mono (H1.out m1 hm1.out) ?_
              rintro e m2 ⟨rfl, hb⟩
              have hm2 : Hid (Below wr.heap.size wr m2) := hm1.out.trans (hb.mono hm1.out.size)
              refine hK _ _ (Sx.behind (by kernel_rfl) hm2.out) ?_
              clear hK K hb
              try go_simp
              refine wpAnyX_both (T := fun uu => Below wr.heap.size wr uu) (i := 27) (v := Value.bool false) rfl (by kernel_rfl) (by kernel_rfl) (by kernel_rfl) (fun _ _ _ h => by first | exact h | exact h.elim) (by decide) (fun _ h => h.elim) (fun _ h => h) (Sx.behind (by kernel_rfl) hm2.out) (Or.inl ⟨by rfl, fun uu hu => by go_simp⟩) ?_
              try go_simp
              refine wpAnyX_both (T := fun uu => Below wr.heap.size wr uu) (i := 28) (v := Value.bool false) rfl (by kernel_rfl) (by kernel_rfl) (by kernel_rfl) (fun _ _ _ h => by first | exact h | exact h.elim) (by decide) (fun _ h => h.elim) (fun _ h => h) (Sx.behind (by kernel_rfl) hm2.out) (Or.inl ⟨by rfl, fun uu hu => by go_simp⟩) ?_
              try go_simp
              refine wpAnyX_both (T := fun uu => Below wr.heap.size wr uu) (i := 29) (v := Value.slice (some ⟨b3, o3, none⟩) ns sc) rfl (by kernel_rfl) (by kernel_rfl) (by kernel_rfl) (fun _ _ _ h => by first | exact h | exact h.elim) (by decide) (fun _ h => h.elim) (fun _ h => h) (Sx.behind (by kernel_rfl) hm2.out) (Or.inl ⟨by rfl, fun uu hu => by go_simp⟩) ?_
              try go_simp
              refine wpAnyX_both (T := fun uu => Below wr.heap.size wr uu) (i := 30) (v := Value.int .i64 (k : Int)) rfl (by kernel_rfl) (by kernel_rfl) (by kernel_rfl) (fun _ _ _ h => by first | exact h | exact h.elim) (by decide) (fun _ h => h.elim) (fun _ h => h) (Sx.behind (by kernel_rfl) hm2.out) (Or.inl ⟨by rfl, fun uu hu => by go_simp⟩) ?_
              try go_simp
              refine wpAnyX_both (T := fun uu => Below wr.heap.size wr uu) (i := 31) (v := Value.slice (some ⟨b3, o3, none⟩) k sc) rfl (by kernel_rfl) (by kernel_rfl) (by kernel_rfl) (fun _ _ _ h => by first | exact h | exact h.elim) (by decide) (fun _ h => h.elim) (fun _ h => h) (Sx.behind (by kernel_rfl) hm2.out) (Or.inl ⟨by rfl, fun uu hu => by go_simp⟩) ?_
              try go_simp
              refine wpAnyX_both (T := fun uu => Below wr.heap.size wr uu) (i := 32) (v := Value.slice (some ⟨b3, o3, none⟩) ns sc) rfl (by kernel_rfl) (by kernel_rfl) (by kernel_rfl) (fun _ _ _ h => by first | exact h | exact h.elim) (by decide) (fun _ h => h.elim) (fun _ h => h) (Sx.behind (by kernel_rfl) hm2.out) (Or.inl ⟨by rfl, fun uu hu => by go_simp⟩) ?_
              try go_simp
              refine wpAnyX_both (T := fun uu => Below wr.heap.size wr uu) (i := 33) (v := Value.int .i64 (k : Int)) rfl (by kernel_rfl) (by kernel_rfl) (by kernel_rfl) (fun _ _ _ h => by first | exact h | exact h.elim) (by decide) (fun _ h => h.elim) (fun _ h => h) (Sx.behind (by kernel_rfl) hm2.out) (Or.inl ⟨by rfl, fun uu hu => by go_simp⟩) ?_
              try go_simp
              refine wpAnyX_both (T := fun uu => Below wr.heap.size wr uu) (i := 34) (v := Value.pointer (some ⟨b3, o3 + k, none⟩)) rfl (by kernel_rfl) (by kernel_rfl) (by kernel_rfl) (fun _ _ _ h => by first | exact h | exact h.elim) (by decide) (fun _ h => h.elim) (fun _ h => h) (Sx.behind (by kernel_rfl) hm2.out) (Or.inl ⟨by rfl, fun uu hu => by go_simp⟩) ?_
              try go_simp
              refine wpAnyX_both (T := fun uu => Below wr.heap.size wr uu) (i := 35) (v := Value.int .i64 x) rfl (by kernel_rfl) (by kernel_rfl) (by kernel_rfl) (fun _ _ _ h => by first | exact h | exact h.elim) (by decide) (fun _ h => h.elim) (fun _ h => h) (Sx.behind (by kernel_rfl) hm2.out) (Or.inl ⟨by rfl, fun uu hu => by have e0 := HXC.out uu hu; go_simp⟩) ?_
              try go_simp
              refine wpAnyX_both (T := fun uu => Below wr.heap.size wr uu) (i := 36) (v := Value.int .i64 (-x)) rfl (by kernel_rfl) (by kernel_rfl) (by kernel_rfl) (fun _ _ _ h => by first | exact h | exact h.elim) (by decide) (fun _ h => h.elim) (fun _ h => h) (Sx.behind (by kernel_rfl) hm2.out) (Or.inl ⟨by rfl, fun uu hu => by go_simp⟩) ?_
              try go_simp
              refine wpAnyX_ready (rs := [37]) (by kernel_rfl) (by simp) (AllX.cons rfl (fun K hK => ?_) AllX.nil)
              go_simp
              refine Calls.mono (H2.out m2 hm2.out) ?_
              rintro e m3 ⟨rfl, hb⟩
              have hm3 : Hid (Below wr.heap.size wr m3) := hm2.out.trans (hb.mono hm2.out.size)
              refine hK _ _ (Sx.behind (by kernel_rfl) hm3.out) ?_
              clear hK K hb
              try go_simp
              refine wpAnyX_both (T := fun uu => Below wr.heap.size wr uu) (i := 38) (v := Value.bool false) rfl (by kernel_rfl) (by kernel_rfl) (by kernel_rfl) (fun _ _ _ h => by first | exact h | exact h.elim) (by decide) (fun _ h => h.elim) (fun _ h => h) (Sx.behind (by kernel_rfl) hm3.out) (Or.inl ⟨by rfl, fun uu hu => by go_simp⟩) ?_
              try go_simp
              refine wpAnyX_done (by kernel_rfl) ?_ _
              go_wp2_with fail
              go_roundw
              case rel => exact ⟨k + 1, by omega, by go_num, NP.out, HBU.out.trans (hm3.out.mono HBU.out.size)⟩
              case measure => simp only [intOf]; omega
      · obtain rfl : k = ns := by omega
        have HS : Hid (setR (Sn : Int) set = true) := setR_yes fun j y hy => HP.out j y (by rw [← HNS.out]; exact (List.getElem?_eq_some_iff.1 hy).1) hy
        have HU : Hid (unF (Sn + 1) (xs.map Iw.ks) set = R) := by
          have h := HR.out
          rw [if_pos ⟨trivial, HS.out⟩, Int.toNat_natCast] at h
          exact h
        have HL := kide (l18Unit_any ca sa cc nc sc k xs set wr (HC.out.later HB.out) HNC.out (HST.out.later HB.out) HNS.out HS0.out HK.out (setR_tk.1 HS.out))
        rw [HU.out] at HL
        clear HP
        go_wp2_with fail
        refine Calls.mono HL.out ?_
        rintro e u ⟨v, rfl, ho, hb⟩
        have HO := kide (ho.lowI HB.out.size)
        have HBB := kide (HB.out.trans (hb.mono HB.out.size))
        clear ho hb
        go_wp2_with fail
        exact bodyPost_ret (v := .tuple #[v, .bool R.2]) (by simp [results, Tryd.results8, go_sem]) rfl ⟨v, rfl, HO.out, HBB.out⟩
end Go.Proofs.YtmfamdonbgmjbaaDoor
