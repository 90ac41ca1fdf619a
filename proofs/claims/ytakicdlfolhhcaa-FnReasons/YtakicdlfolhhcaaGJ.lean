/- The specification's forests. -/
import Derived.Test.YtakicdlfolhhcaaGI
import Derived.Test.YtakicdlfolhhcaaGG
namespace Go.Proofs.Ytakicdlfolhhcaa
set_option linter.unusedVariables false
set_option linter.unusedSimpArgs false
open Go.RowKit

theorem OW.fresh (w : World) (B : Nat) (hB : B ≤ w.heap.size) : OW (w.alloc (Obj.cells #[] 2)) B (.slice (some ⟨w.heap.size, 0, none⟩) 0 0) [] :=
  ⟨rfl, .inr ⟨w.heap.size, 0, #[], rfl, hB, heap_alloc_new _ _, Nat.le_refl _, by unfold maxLen; omega, rfl, rfl⟩⟩
theorem OW.lt {w : World} {B : Nat} {v : Value} {xs : List Int} (h : OW w B v xs) {k : Nat} (hk : v.ownBlock = some k) : B ≤ k ∧ k < w.heap.size := own_lt h hk
theorem OW.later {w w' : World} {B : Nat} {v : Value} {xs : List Int} (h : OW w B v xs) (hb : Below w.heap.size w w') : OW w' B v xs := own_later h hb
theorem lv_succ (k : Nat) : lv (k + 1) id = lv k id ++ [(k : Int)] := by simp [lv, List.range_succ]

set_option maxHeartbeats 1000000 in
theorem l7Least_any (N n c : Nat) (a : Option Addr) (ls : List Lk) (L : Nat → Nat) (w : World) (hr : RdK w a ls) (hn : ls.length = n) (hN : N ≤ 1000) (hL : goF N id ls = some L) :
    Calls Try.prog 40 #[.int .i64 (N : Int), .slice a n c] w fun e w' => ∃ v, e = .returned v ∧ OW w' w.heap.size v (lv N L) ∧ Below w.heap.size w w' := by
  have O0 := kide (OW.fresh w w.heap.size (Nat.le_refl _))
  have B0 : Hid (Below w.heap.size w (w.alloc (Obj.cells #[] 2))) := (Below.refl _ _).alloc (Nat.le_refl _) _
  have HR := kide hr
  have HN := kide hn
  have HL := kide hL
  have hn2 : n ≤ 1048576 := by rw [← hn]; exact hr.1
  clear hr hn hL
  go_enter Try.func40, Try.ntmps40
  go_wp2_with fail
  go_loopw [5, 6] (fun o q wr => ∃ k : Nat, k ≤ N ∧ q = .int .i64 (k : Int) ∧ OW wr w.heap.size o (lv k id) ∧ Below w.heap.size w wr) (fun _ q _ => N - (intOf q).toNat)
  case atStart => exact ⟨0, Nat.zero_le _, rfl, O0.out, B0.out⟩
  case round =>
    obtain ⟨k, hk, rfl, hown, hbel⟩ := hrel
    have HO := kide hown
    have HB := kide hbel
    clear hown hbel O0 B0
    by_cases hlt : k < N
    · have i0 : (k : Int) < (N : Int) := by omega
      have hul : (lv k id).length ≤ 1073741824 := by rw [lv_len]; omega
      have hsz := HB.out.size
      go_wp2_with (at_builtin; refine wpList_appW rfl _ _ rfl w.heap.size _ (lv k id) (k : Int) rfl (World.ownsRow.alloc HO.out _) _ rfl (by simp) hul (by simp; omega) ?_)
      intro v7 w7 hos hg
      have O7 := kide hos
      have B7 := kide (Below.grown (HB.out.alloc HB.out.size (Obj.cells #[Value.int .i64 (k : Int)] 2)) hg (by simp; omega) (fun j hj => (own_lt HO.out hj).1))
      clear hos hg
      go_wp2_with fail
      go_roundw
      case rel => exact ⟨k + 1, by omega, by go_num, by rw [lv_succ]; exact O7.out, B7.out⟩
      case measure => simp [intOf]; omega
    · have e : k = N := by omega
      subst e
      have hlen := goF_len HL.out
      rcases HO.out.2 with ⟨hv, h0⟩ | ⟨g, cap, cur, hv, hgB, -⟩
      · have hk0 : k = 0 := by rw [lv_len] at h0; exact h0
        have hn0 : n = 0 := by have := HN.out; omega
        subst hk0
        subst hn0
        have hLL : Hid (lv 0 L = lv 0 id) := by show _ = _; simp [lv]
        rw [hv] at HO ⊢
        go_wp2_with fail
        go_loopw [7] (fun q wr' => q = .int .i64 0 ∧ wr' = wr) (fun _ _ => 0)
        case atStart => exact ⟨rfl, rfl⟩
        case round =>
          obtain ⟨rfl, rfl⟩ := hrel
          go_wp2_with fail
          go_ret
          exact ⟨_, rfl, by rw [hLL.out]; exact HO.out, HB.out⟩
      · rw [lv_len] at hv
        obtain ⟨N, hNk⟩ : ∃ N, N = k := ⟨_, rfl⟩
        subst hNk
        have HV := kide hv
        have hgl : Hid (w.heap.size ≤ g) := hgB
        rw [hv] at HO ⊢
        clear hv hgB
        go_wp2_with fail
        have HO0 := HO
        have HB0 := HB
        clear HO HB
        go_loopw [7] (fun q wr => ∃ (k : Nat) (L' : Nat → Nat), k ≤ n ∧ q = .int .i64 (k : Int) ∧ goF N id (ls.take k) = some L' ∧ OW wr w.heap.size (.slice (some ⟨g, 0, none⟩) N cap) (lv N L') ∧ Below w.heap.size w wr) (fun q _ => n - (intOf q).toNat)
        case atStart => exact ⟨0, id, Nat.zero_le _, rfl, rfl, HO0.out, HB0.out⟩
        case round =>
          obtain ⟨k, L', hk', rfl, hgo, hown, hbel⟩ := hrel
          have HO := kide hown
          have HB := kide hbel
          have HGO := kide hgo
          clear hown hbel hgo HO0 HB0
          by_cases hlt2 : k < n
          · have i0 : (k : Int) < (n : Int) := by omega
            obtain ⟨⟨la, lb, ly⟩, gx⟩ : ∃ x, ls[k]? = some x := ⟨ls[k]'(by rw [HN.out]; exact hlt2), List.getElem?_eq_getElem _⟩
            obtain ⟨-, -, h | ⟨b2, o2, rfl, hc⟩⟩ := HR.out.later HB.out
            · rw [h] at gx; simp at gx
            obtain ⟨p0, p1, -⟩ := hc k _ gx
            simp only [] at p0 p1
            have hk1 := goF_take HGO.out gx
            have hok : lkOk N L' (la, lb, ly) = true := by
              cases hh : lkOk N L' (la, lb, ly) with
              | true => rfl
              | false =>
                rw [hh] at hk1
                have := goF_none (k := k + 1) (by simpa using hk1)
                rw [HL.out] at this
                cases this
            rw [hok, if_pos rfl] at hk1
            obtain ⟨q1, q2, -, -⟩ := lkOk_iff.1 hok
            simp only [] at q1 q2 hk1
            obtain ⟨na, rfl⟩ : ∃ m : Nat, la = (m : Int) := ⟨la.toNat, by omega⟩
            obtain ⟨nb, rfl⟩ : ∃ m : Nat, lb = (m : Int) := ⟨lb.toNat, by omega⟩
            have hna : na < N := by omega
            have hnb : nb < N := by omega
            have hLN : Hid (∀ i, i < N → L' i < N) := (goF_names (Nm.start N) HGO.out).1.lt
            have HK1 : Hid (goF N id (ls.take (k + 1)) = some (mrg L' na nb)) := by show _ = _; rw [hk1]; simp
            clear hc gx hk1 hok q1 q2
            go_wp2_with fail
            refine wp_region_x (SA := fun u => u.cell? ⟨b2, o2 + k * 3, none⟩ = some (Value.int .i64 (na : Int)) ∧ u.cell? ⟨b2, o2 + k * 3 + 1, none⟩ = some (Value.int .i64 (nb : Int))) (SB := fun _ => True) (k := 11) (by kernel_rfl) ?_
            have hs : Hid ((fun u => u.cell? ⟨b2, o2 + k * 3, none⟩ = some (Value.int .i64 (na : Int)) ∧ u.cell? ⟨b2, o2 + k * 3 + 1, none⟩ = some (Value.int .i64 (nb : Int))) wr.drew) := ⟨p0, p1⟩
            have HOd : Hid (OW wr.drew w.heap.size (.slice (some ⟨g, 0, none⟩) N cap) (lv N L')) := HO.out
            have HBd : Hid (Below w.heap.size w wr.drew) := HB.out.drew
            clear p0 p1 HO HB
            generalize wr.drew = u1 at *
            have HMG := kide (l7Merge_any g cap w.heap.size N L' na nb u1 HOd.out hna hnb (by omega) hLN.out)
            try go_simp
            refine wpAnyX_both (T := fun _ => True) (i := 0) (v := Value.slice (some ⟨g, 0, none⟩) N cap) rfl (by kernel_rfl) (by kernel_rfl) (by kernel_rfl) (fun _ _ _ h => h) (by decide) (fun _ _ => trivial) (fun _ _ => trivial) (Sx.before (by kernel_rfl) hs.out) (Or.inl ⟨by rfl, fun u hu => by go_simp⟩) ?_
            try go_simp
            refine wpAnyX_both (T := fun _ => True) (i := 1) (v := Value.slice (some ⟨b2, o2, none⟩) n c) rfl (by kernel_rfl) (by kernel_rfl) (by kernel_rfl) (fun _ _ _ h => h) (by decide) (fun _ _ => trivial) (fun _ _ => trivial) (Sx.before (by kernel_rfl) hs.out) (Or.inl ⟨by rfl, fun u hu => by go_simp⟩) ?_
            try go_simp
            refine wpAnyX_both (T := fun _ => True) (i := 2) (v := Value.int .i64 (k : Int)) rfl (by kernel_rfl) (by kernel_rfl) (by kernel_rfl) (fun _ _ _ h => h) (by decide) (fun _ _ => trivial) (fun _ _ => trivial) (Sx.before (by kernel_rfl) hs.out) (Or.inl ⟨by rfl, fun u hu => by go_simp⟩) ?_
            try go_simp
            refine wpAnyX_both (T := fun _ => True) (i := 3) (v := Value.pointer (some ⟨b2, o2 + k * 3, none⟩)) rfl (by kernel_rfl) (by kernel_rfl) (by kernel_rfl) (fun _ _ _ h => h) (by decide) (fun _ _ => trivial) (fun _ _ => trivial) (Sx.before (by kernel_rfl) hs.out) (Or.inl ⟨by rfl, fun u hu => by go_simp⟩) ?_
            try go_simp
            refine wpAnyX_both (T := fun _ => True) (i := 4) (v := Value.pointer (some ⟨b2, o2 + k * 3, none⟩)) rfl (by kernel_rfl) (by kernel_rfl) (by kernel_rfl) (fun _ _ _ h => h) (by decide) (fun _ _ => trivial) (fun _ _ => trivial) (Sx.before (by kernel_rfl) hs.out) (Or.inl ⟨by rfl, fun u hu => by go_simp⟩) ?_
            try go_simp
            refine wpAnyX_take (i := 5) (v := Value.int .i64 (na : Int)) rfl (by kernel_rfl) (by kernel_rfl) (by kernel_rfl) (fun _ _ _ h => h) (by decide) (by kernel_rfl) (by kernel_rfl) hs.out (Or.inl ⟨by rfl, fun u hu => by obtain ⟨e1, e2⟩ := hu; go_simp⟩) ?_
            try go_simp
            refine wpAnyX_both (T := fun _ => True) (i := 6) (v := Value.slice (some ⟨b2, o2, none⟩) n c) rfl (by kernel_rfl) (by kernel_rfl) (by kernel_rfl) (fun _ _ _ h => h) (by decide) (fun _ _ => trivial) (fun _ _ => trivial) (Sx.before (by kernel_rfl) hs.out) (Or.inl ⟨by rfl, fun u hu => by go_simp⟩) ?_
            try go_simp
            refine wpAnyX_both (T := fun _ => True) (i := 7) (v := Value.int .i64 (k : Int)) rfl (by kernel_rfl) (by kernel_rfl) (by kernel_rfl) (fun _ _ _ h => h) (by decide) (fun _ _ => trivial) (fun _ _ => trivial) (Sx.before (by kernel_rfl) hs.out) (Or.inl ⟨by rfl, fun u hu => by go_simp⟩) ?_
            try go_simp
            refine wpAnyX_both (T := fun _ => True) (i := 8) (v := Value.pointer (some ⟨b2, o2 + k * 3, none⟩)) rfl (by kernel_rfl) (by kernel_rfl) (by kernel_rfl) (fun _ _ _ h => h) (by decide) (fun _ _ => trivial) (fun _ _ => trivial) (Sx.before (by kernel_rfl) hs.out) (Or.inl ⟨by rfl, fun u hu => by go_simp⟩) ?_
            try go_simp
            refine wpAnyX_both (T := fun _ => True) (i := 9) (v := Value.pointer (some ⟨b2, o2 + k * 3 + 1, none⟩)) rfl (by kernel_rfl) (by kernel_rfl) (by kernel_rfl) (fun _ _ _ h => h) (by decide) (fun _ _ => trivial) (fun _ _ => trivial) (Sx.before (by kernel_rfl) hs.out) (Or.inl ⟨by rfl, fun u hu => by go_simp⟩) ?_
            try go_simp
            refine wpAnyX_take (i := 10) (v := Value.int .i64 (nb : Int)) rfl (by kernel_rfl) (by kernel_rfl) (by kernel_rfl) (fun _ _ _ h => h) (by decide) (by kernel_rfl) (by kernel_rfl) hs.out (Or.inl ⟨by rfl, fun u hu => by obtain ⟨e1, e2⟩ := hu; go_simp⟩) ?_
            try go_simp
            refine wpAnyX_ready (rs := [11]) (by kernel_rfl) (by simp) (AllX.cons rfl (fun K hK => ?_) AllX.nil)
            go_simp
            refine Calls.mono HMG.out ?_
            rintro e w3 ⟨rfl, ho3, hg3⟩
            have O3 := kide ho3
            have B3 := kide (Below.grown HBd.out hg3 (by have := HBd.out.size; omega) (fun q hq => by cases hq; exact hgl.out))
            clear ho3 hg3
            refine hK _ _ (Sx.behind (by kernel_rfl) trivial) ?_
            clear hK K
            try go_simp
            refine wpAnyX_done (by kernel_rfl) ?_ _
            skip
            go_wp2_with fail
            go_roundw
            case rel => exact ⟨k + 1, mrg L' na nb, by omega, by go_num, HK1.out, O3.out, B3.out⟩
            case measure => simp [intOf]; omega
          · have hLL : Hid (L' = L) := by
              show _ = _
              have h1 := HGO.out
              rw [List.take_of_length_le (by rw [HN.out]; omega), HL.out] at h1
              cases h1; rfl
            go_wp2_with fail
            go_ret
            exact ⟨_, rfl, by rw [← hLL.out]; exact HO.out, HB.out⟩

/-- Whether the specification calls a forest right. -/
theorem forR_len {z : Int} {ls : List Lk} {L : Nat → Nat} (h : forR z ls = some L) : (0 ≤ z ∧ z ≤ 1000) ∧ (ls.length : Int) ≤ z := by
  unfold forR at h
  split at h
  · rename_i hz
    have := goF_len h
    exact ⟨hz, by omega⟩
  · cases h

set_option maxHeartbeats 1000000 in
set_option maxRecDepth 100000 in
theorem specForest_any (z : Int) (a : Option Addr) (n c : Nat) (ls : List Lk) (w : World) (hr : RdK w a ls) (hn : ls.length = n) :
    Calls Try.prog 12 #[.agg #[.int .i64 z, .slice a n c]] w fun e w' => e = .returned (.bool (forR z ls).isSome) ∧ Below w.heap.size w w' := by
  have s0 := St.start w (.cells #[.int .i64 z, .slice a n c] 29)
  have hn2 : n ≤ 1048576 := by rw [← hn]; exact hr.1
  have S0 := kide s0
  have HR := kide hr
  have HN := kide hn
  have HI := kide (fun u => l1In_any z 0 1000 u)
  clear hr hn s0
  by_cases hz : 0 ≤ z ∧ z ≤ 1000
  case neg =>
    have hf : forR z ls = none := by unfold forR; rw [if_neg hz]
    rw [hf]
    simp only [decide_eq_false hz] at HI
    go_enter Try.func12, Try.ntmps12
    go_wp2_with fail
    refine Calls.mono (HI.out _) ?_
    rintro e w1 ⟨rfl, rfl⟩
    go_wp2_with fail
    go_ret
    exact ⟨rfl, S0.out.below⟩
  case pos =>
    simp only [decide_eq_true hz] at HI
    obtain ⟨N, rfl⟩ : ∃ N : Nat, z = (N : Int) := ⟨z.toNat, by omega⟩
    have hN : N ≤ 1000 := by omega
    by_cases hnN : N < n
    · have hf : forR (N : Int) ls = none := by
        cases h : forR (N : Int) ls with
        | none => rfl
        | some L => have := (forR_len h).2; have := HN.out; omega
      rw [hf]
      have i0 : (N : Int) < (n : Int) := by omega
      go_enter Try.func12, Try.ntmps12
      go_wp2_with fail
      refine Calls.mono (HI.out _) ?_
      rintro e w1 ⟨rfl, rfl⟩
      go_wp2_with fail
      go_ret
      exact ⟨rfl, S0.out.below⟩
    · have i0 : ¬ (N : Int) < (n : Int) := by omega
      go_enter Try.func12, Try.ntmps12
      go_wp2_with fail
      refine Calls.mono (HI.out _) ?_
      rintro e w1 ⟨rfl, hw1⟩
      have S1 : Hid (St w (.cells #[.int .i64 (N : Int), .slice a n c] 29) w1) := by rw [hw1]; exact S0.out
      have g0 := S1.out.cell 0
      have g1 := S1.out.cell 1
      simp at g0 g1
      clear S0 HI hw1
      go_wp2_with fail
      refine Calls.mono (l7Least_any N 0 0 (some ⟨w1.heap.size, 0, none⟩) [] id (w1.alloc (Obj.cells #[] 55)) ⟨by simp, by simp, .inl rfl⟩ rfl hN rfl) ?_
      rintro e w2 ⟨v2, rfl, ho2, hb2⟩
      have S2 := kide (S1.out.next (((Below.refl _ _).alloc (Nat.le_refl _) _).trans (hb2.mono (by simp))))
      have hB1 : w.heap.size < (w1.alloc (Obj.cells #[] 55)).heap.size := by have := S1.out.size; simp; omega
      have O2 := kide ho2
      obtain ⟨B, hBe⟩ : ∃ B, (w1.alloc (Obj.cells #[] 55)).heap.size = B := ⟨_, rfl⟩
      rw [hBe] at O2 hB1
      clear ho2 hb2 S1 g0 g1 hBe
      rcases O2.out.2 with ⟨hv, h0⟩ | ⟨g, cap, cur, hv, hgB, -⟩
      · have hk0 : N = 0 := by rw [lv_len] at h0; exact h0
        have hn0 : n = 0 := by omega
        have hf : Hid ((forR (N : Int) ls).isSome = true) := by
          show _ = _
          have : ls = [] := List.eq_nil_of_length_eq_zero (by rw [HN.out]; exact hn0)
          subst this
          unfold forR
          rw [if_pos ⟨by omega, by omega⟩]
          rfl
        have g1 := S2.out.cell 1
        simp at g1
        rw [hn0] at g1
        go_wp2_with fail
        go_loopw [4] (fun q wr' => q = .int .i64 0 ∧ wr' = w2) (fun _ _ => 0)
        case atStart => exact ⟨rfl, rfl⟩
        case round =>
          obtain ⟨rfl, rfl⟩ := hrel
          go_wp2_with fail
          go_ret
          exact ⟨by rw [hf.out]; rfl, S2.out.below⟩
      · rw [lv_len] at hv
        have hgl : Hid (B ≤ g) := hgB
        rw [hv] at O2 ⊢
        clear hv hgB
        go_wp2_with fail
        go_loopw [4] (fun q wr => ∃ (k : Nat) (L' : Nat → Nat), k ≤ n ∧ q = .int .i64 (k : Int) ∧ goF N id (ls.take k) = some L' ∧ OW wr B (.slice (some ⟨g, 0, none⟩) N cap) (lv N L') ∧ St w (.cells #[.int .i64 (N : Int), .slice a n c] 29) wr) (fun q _ => n - (intOf q).toNat)
        case atStart => exact ⟨0, id, Nat.zero_le _, rfl, rfl, O2.out, S2.out⟩
        case round =>
          obtain ⟨k, L', hk', rfl, hgo, hown, hst⟩ := hrel
          have HO := kide hown
          have HS := kide hst
          have HGO := kide hgo
          clear hown hst hgo O2 S2
          have g0 := HS.out.cell 0
          have g1 := HS.out.cell 1
          simp at g0 g1
          by_cases hlt2 : k < n
          · have i1 : (k : Int) < (n : Int) := by omega
            obtain ⟨⟨la, lb, ly⟩, gx⟩ : ∃ x, ls[k]? = some x := ⟨ls[k]'(by rw [HN.out]; exact hlt2), List.getElem?_eq_getElem _⟩
            obtain ⟨-, hin, h | ⟨b2, o2, rfl, hc⟩⟩ := HR.out.later HS.out.below
            · rw [h] at gx; simp at gx
            obtain ⟨p0, p1, p2⟩ := hc k _ gx
            simp only [] at p0 p1 p2
            have HK1 := kide (goF_take HGO.out gx)
            clear hc gx hin
            go_wp2_with fail
            have hbx1 : Below wr.heap.size wr (wr.alloc (Obj.cells #[.int .i64 la, .int .i64 lb, .int .i64 ly] 55)) := (Below.refl _ _).alloc (Nat.le_refl _) _
            have XL := kide (Bx.new wr #[.int .i64 la, .int .i64 lb, .int .i64 ly] 55)
            have HS1 := kide (HS.out.next hbx1)
            have HO1 := kide (HO.out.later hbx1)
            obtain ⟨bx, hbx⟩ : ∃ x, wr.heap.size = x := ⟨_, rfl⟩
            rw [hbx] at XL ⊢
            generalize wr.alloc (Obj.cells #[.int .i64 la, .int .i64 lb, .int .i64 ly] 55) = u1 at *
            have e0 := XL.out.cell 0
            have e1 := XL.out.cell 1
            have e2 := XL.out.cell 2
            have e3 := HS1.out.cell 0
            simp at e0 e1 e2 e3
            have BW1 := kide HS1.out.below
            have HIA := kide (fun u => l1In_any la 0 ((N : Int) - 1) u)
            have HIB := kide (fun u => l1In_any lb 0 ((N : Int) - 1) u)
            have HIY := kide (fun u => l1In_any ly 0 1000000 u)
            clear hbx p0 p1 p2 g0 g1 hbx1 HO HS
            by_cases hA : 0 ≤ la ∧ la ≤ (N : Int) - 1
            case neg =>
              have hnone : Hid ((forR (N : Int) ls).isSome = false) := by
                show _ = _
                have : forR (N : Int) ls = none := by
                  unfold forR
                  rw [if_pos ⟨by omega, by omega⟩]
                  refine goF_none (k := k + 1) ?_
                  rw [Int.toNat_natCast, HK1.out, if_neg]
                  rw [lkOk_iff]
                  rintro ⟨q1, q2, q3, q4⟩
                  exact hA ⟨q1.1, by have := q1.2; simp only [] at this; omega⟩
                rw [this]; rfl
              simp only [decide_eq_false hA] at HIA
              go_quiet ((go_at_call 39; with_reducible (first | exact Calls.quiet_of_same (HIA.out _) | exact Calls.quiet_of_same (HIB.out _) | exact Calls.quiet_of_same (HIY.out _))))
              go_wp2_with fail
              go_ret
              exact ⟨by rw [hnone.out]; rfl, BW1.out.trans ⟨rfl, rfl, rfl, Nat.le_refl _, fun _ _ => rfl⟩⟩
            simp only [decide_eq_true hA] at HIA
            by_cases hB2 : 0 ≤ lb ∧ lb ≤ (N : Int) - 1
            case neg =>
              have hnone : Hid ((forR (N : Int) ls).isSome = false) := by
                show _ = _
                have : forR (N : Int) ls = none := by
                  unfold forR
                  rw [if_pos ⟨by omega, by omega⟩]
                  refine goF_none (k := k + 1) ?_
                  rw [Int.toNat_natCast, HK1.out, if_neg]
                  rw [lkOk_iff]
                  rintro ⟨q1, q2, q3, q4⟩
                  exact hB2 ⟨q2.1, by have := q2.2; simp only [] at this; omega⟩
                rw [this]; rfl
              simp only [decide_eq_false hB2] at HIB
              go_quiet ((go_at_call 39; with_reducible (first | exact Calls.quiet_of_same (HIA.out _) | exact Calls.quiet_of_same (HIB.out _) | exact Calls.quiet_of_same (HIY.out _))))
              go_wp2_with fail
              go_ret
              exact ⟨by rw [hnone.out]; rfl, BW1.out.trans ⟨rfl, rfl, rfl, Nat.le_refl _, fun _ _ => rfl⟩⟩
            simp only [decide_eq_true hB2] at HIB
            by_cases hY : 0 ≤ ly ∧ ly ≤ 1000000
            case neg =>
              have hnone : Hid ((forR (N : Int) ls).isSome = false) := by
                show _ = _
                have : forR (N : Int) ls = none := by
                  unfold forR
                  rw [if_pos ⟨by omega, by omega⟩]
                  refine goF_none (k := k + 1) ?_
                  rw [Int.toNat_natCast, HK1.out, if_neg]
                  rw [lkOk_iff]
                  rintro ⟨q1, q2, q3, q4⟩
                  exact hY q3
                rw [this]; rfl
              simp only [decide_eq_false hY] at HIY
              go_quiet ((go_at_call 39; with_reducible (first | exact Calls.quiet_of_same (HIA.out _) | exact Calls.quiet_of_same (HIB.out _) | exact Calls.quiet_of_same (HIY.out _))))
              go_wp2_with fail
              go_ret
              exact ⟨by rw [hnone.out]; rfl, BW1.out.trans ⟨rfl, rfl, rfl, Nat.le_refl _, fun _ _ => rfl⟩⟩
            simp only [decide_eq_true hY] at HIY
            obtain ⟨na, rfl⟩ : ∃ m : Nat, la = (m : Int) := ⟨la.toNat, by omega⟩
            obtain ⟨nb, rfl⟩ : ∃ m : Nat, lb = (m : Int) := ⟨lb.toNat, by omega⟩
            have hna : na < N := by omega
            have hnb : nb < N := by omega
            have ina : (na : Int) < (N : Int) := by omega
            have inb : (nb : Int) < (N : Int) := by omega
            obtain ⟨e4, -⟩ := HO1.out.cell (lv_get (L := L') hna)
            obtain ⟨e5, -⟩ := HO1.out.cell (lv_get (L := L') hnb)
            obtain ⟨va, hva⟩ : ∃ v, L' na = v := ⟨_, rfl⟩
            obtain ⟨vb, hvb⟩ : ∃ v, L' nb = v := ⟨_, rfl⟩
            rw [hva] at e4
            rw [hvb] at e5
            by_cases hsm : va = vb
            case pos =>
              have hnone : Hid ((forR (N : Int) ls).isSome = false) := by
                show _ = _
                have : forR (N : Int) ls = none := by
                  unfold forR
                  rw [if_pos ⟨by omega, by omega⟩]
                  refine goF_none (k := k + 1) ?_
                  rw [Int.toNat_natCast, HK1.out, if_neg]
                  rw [lkOk_iff]
                  rintro ⟨q1, q2, q3, q4⟩
                  exact q4 (by simp [hva, hvb, hsm])
                rw [this]; rfl
              have he : ((va : Int) == (vb : Int)) = true := by simp; omega
              clear hva hvb
              go_quiet ((go_at_call 39; with_reducible (first | exact Calls.quiet_of_same (HIA.out _) | exact Calls.quiet_of_same (HIB.out _) | exact Calls.quiet_of_same (HIY.out _))))
              go_wp2_with fail
              go_ret
              exact ⟨by rw [hnone.out]; rfl, BW1.out.trans ⟨rfl, rfl, rfl, Nat.le_refl _, fun _ _ => rfl⟩⟩
            have hsome : Hid (goF N id (ls.take (k + 1)) = some (mrg L' na nb)) := by
              show _ = _
              rw [HK1.out, if_pos]
              · simp
              rw [lkOk_iff]
              exact ⟨⟨hA.1, by have := hA.2; simp only []; omega⟩, ⟨hB2.1, by have := hB2.2; simp only []; omega⟩, hY, fun q => hsm (by simpa [hva, hvb] using q)⟩
            have he : ((va : Int) == (vb : Int)) = false := by simp; omega
            have hLN : Hid (∀ i, i < N → L' i < N) := (goF_names (Nm.start N) HGO.out).1.lt
            clear hva hvb hsm
            go_quiet ((go_at_call 39; with_reducible (first | exact Calls.quiet_of_same (HIA.out _) | exact Calls.quiet_of_same (HIB.out _) | exact Calls.quiet_of_same (HIY.out _))))
            have XL2 : Hid (Bx (u1.drewN nq) bx #[.int .i64 (na : Int), .int .i64 (nb : Int), .int .i64 ly] 55) := XL.out
            have HS2 : Hid (St w (.cells #[.int .i64 (N : Int), .slice (some ⟨b2, o2, none⟩) n c] 29) (u1.drewN nq)) := HS1.out.next ⟨rfl, rfl, rfl, Nat.le_refl _, fun _ _ => rfl⟩
            have HO2 : Hid (OW (u1.drewN nq) B (.slice (some ⟨g, 0, none⟩) N cap) (lv N L')) := HO1.out
            generalize u1.drewN nq = u2 at *
            have p0 := XL2.out.cell 0
            have p1 := XL2.out.cell 1
            simp at p0 p1
            clear e0 e1 e2 e3 e4 e5 HIA HIB HIY he XL HS1 HO1 BW1
            go_wp2_with fail
            refine Calls.mono (l7Merge_any g cap B N L' na nb u2 HO2.out hna hnb (by omega) hLN.out) ?_
            rintro e w3 ⟨rfl, ho3, hg3⟩
            have O3 := kide ho3
            have S3 : Hid (St w (.cells #[.int .i64 (N : Int), .slice (some ⟨b2, o2, none⟩) n c] 29) w3) := Below.grown HS2.out hg3 (by have := HS2.out.size; omega) (fun q hq => by cases hq; have := hgl.out; omega)
            clear ho3 hg3 HO2 HS2 XL2 p0 p1
            go_wp2_with fail
            go_roundw
            case rel => exact ⟨k + 1, mrg L' na nb, by omega, by go_num, hsome.out, O3.out, S3.out⟩
            case measure => simp [intOf]; omega
          · have hLL : Hid ((forR (N : Int) ls).isSome = true) := by
              show _ = _
              have h1 := HGO.out
              rw [List.take_of_length_le (by rw [HN.out]; omega)] at h1
              unfold forR
              rw [if_pos ⟨by omega, by omega⟩, Int.toNat_natCast, h1]
              rfl
            go_wp2_with fail
            go_ret
            exact ⟨by rw [hLL.out]; rfl, HS.out.below⟩

end Go.Proofs.Ytakicdlfolhhcaa
