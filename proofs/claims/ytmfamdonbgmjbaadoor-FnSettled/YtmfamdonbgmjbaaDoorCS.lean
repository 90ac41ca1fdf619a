/- What the program's Meets answers. -/
import Derived.Test.YtmfamdonbgmjbaaDoorZHAB
import Derived.Laws.EntriesVeiled
namespace Go.Proofs.YtmfamdonbgmjbaaDoor
set_option linter.unusedVariables false
set_option linter.unusedSimpArgs false
open Go.RowKit

/-- The closure: is a number so? The flags' slice lies in a box. -/
theorem isSoM_any (S : Int) (hS : S ≤ 400) (b : Option Addr) (m c2 : Nat) (on : List Bool) (x : Int) (g : Nat) (w : World) (ho : RdFl w b on) (hm : on.length = m) (hmS : (m : Int) = S) (hx : x ≠ 0 ∧ -S ≤ x ∧ x ≤ S)
    (h0 : w.cell? ⟨g, 0, none⟩ = some (.slice b m c2)) :
    Calls Tryd.prog 50 #[.int .i64 x, .pointer (some ⟨g, 0, none⟩)] w fun e w' => e = .returned (.bool (soR on x)) ∧ Below w.heap.size w w' := by
  obtain ⟨q, hq1, hq2, hq3⟩ := soR_place hx
  have HA := kide (fun u => switchOf_any x (by omega) u)
  rw [hq1] at HA
  have hqm : q < m := by omega
  have hl2 := ho.1
  obtain ⟨-, h | ⟨b4, o4, rfl, hc4⟩⟩ := ho
  · subst h; simp at hm; omega
  have e4 := hc4 q (by rw [hm]; exact hqm)
  have hso : soR on x = (on.getD q false == decide (0 < x)) := by unfold soR; rw [hq3]
  rw [hso]
  rw [hm] at hl2
  generalize on.getD q false = y at *
  have hqi : (q : Int) < (m : Int) := by omega
  have hb := block_lt_of_cell h0
  have hw1 : IntKind.i64.wrap (q : Int) = (q : Int) := by rw [IntKind.wrap_i64]; omega
  clear hc4 hq1 hq3 hso hm hx hmS hS
  go_enter Tryd.func50, Tryd.ntmps50
  go_wp2_with fail
  go_quiet ((go_at_call 51; exact Calls.quiet_of_same (HA.out _)))
  go_wp2
  go_ret
  exact ⟨rfl, below_drewN (Below.refl _ _) _⟩

theorem fails_any (S : Int) (hS : S ≤ 400) (b : Option Addr) (m c2 : Nat) (on : List Bool) (a1 : Option Addr) (c1 : Nat) (k1 : List Int) (g g2 : Nat) (w : World) (hk : RdI w a1 k1) (ho : RdFl w b on) (hm : on.length = m) (hmS : (m : Int) = S) (hx : ∀ x ∈ k1, x ≠ 0 ∧ -S ≤ x ∧ x ≤ S)
    (h0 : w.cell? ⟨g, 0, none⟩ = some (.slice b m c2)) (h1 : w.cell? ⟨g2, 0, none⟩ = some (.func (.func 50) #[] #[.pointer (some ⟨g, 0, none⟩)])) :
    Calls Tryd.prog 52 #[.slice a1 k1.length c1, .pointer (some ⟨g2, 0, none⟩)] w fun e w' => e = .returned (.bool (!k1.any (soR on))) ∧ Below w.heap.size w w' := by
  have hb := block_lt_of_cell h0
  have HC := kide (ContainsS_any 50 enter_Meets1 (.pointer (some ⟨g, 0, none⟩)) (soR on) a1 c1 k1.length k1 w hk rfl (fun u hu x hxx => isSoM_any S hS b m c2 on x g u (ho.later hu) hm hmS (hx x hxx) ((kcell hu _ _ hb).trans h0)))
  generalize k1.any (soR on) = P at *
  have hb1 := block_lt_of_cell h1
  clear hk ho hm hmS hx hS
  go_enter Tryd.func52, Tryd.ntmps52
  go_wp2_with fail
  refine Calls.mono HC.out ?_
  rintro e w1 ⟨rfl, hb1⟩
  go_wp2_with fail
  go_ret
  exact ⟨rfl, hb1⟩

theorem implMeets_any (S : Int) (a b : Option Addr) (c n c2 m : Nat) (xs : List Iw) (on : List Bool) (w : World) (hs : RdII w a xs) (hn : xs.length = n) (ho : RdFl w b on) (hm : on.length = m) :
    Calls Tryd.prog 26 #[.agg #[.int .i64 S, .slice a n c], .slice b m c2] w fun e w' => e = .returned (.bool (meetR S (xs.map Iw.ks) on)) ∧ Below w.heap.size w w' := by
  have hl1 := hs.1
  rw [hn] at hl1
  have hl2 := ho.1
  rw [hm] at hl2
  have s0 := St.start w (.cells #[.int .i64 S, .slice a n c] 29)
  have hb1 : Below w.heap.size w ((w.alloc (Obj.cells #[Value.int .i64 S, Value.slice a n c] 29)).alloc (Obj.cells #[Value.slice b m c2] 37)) := s0.below.alloc (by simp) _
  have HIM := kide (implCnf_any S a c n xs _ (hs.later hb1) hn)
  have c0 : ((w.alloc (Obj.cells #[Value.int .i64 S, Value.slice a n c] 29)).alloc (Obj.cells #[Value.slice b m c2] 37)).cell? ⟨w.heap.size, 0, none⟩ = some (.int .i64 S) := by simp
  have c1 : ((w.alloc (Obj.cells #[Value.int .i64 S, Value.slice a n c] 29)).alloc (Obj.cells #[Value.slice b m c2] 37)).cell? ⟨w.heap.size, 1, none⟩ = some (.slice a n c) := by simp
  have c3 : ((w.alloc (Obj.cells #[Value.int .i64 S, Value.slice a n c] 29)).alloc (Obj.cells #[Value.slice b m c2] 37)).cell? ⟨w.heap.size + 1, 0, none⟩ = some (.slice b m c2) := by simp
  have l0 : w.heap.size + 1 < ((w.alloc (Obj.cells #[Value.int .i64 S, Value.slice a n c] 29)).alloc (Obj.cells #[Value.slice b m c2] 37)).heap.size := by simp
  have B1 := kide hb1
  cases hcn : cnfR S (xs.map Iw.ks) with
  | false =>
    have HV : Hid (meetR S (xs.map Iw.ks) on = false) := by show _ = _; simp [meetR, hcn]
    rw [hcn] at HIM
    clear hcn hs ho hn hm
    go_enter Tryd.func26, Tryd.ntmps26
    go_wp2_with fail
    refine Calls.mono HIM.out ?_
    rintro e w1 ⟨rfl, hb1⟩
    go_wp2_with fail
    go_ret
    exact ⟨ret_bool HV.out.symm, B1.out.trans (hb1.mono B1.out.size)⟩
  | true =>
    rw [hcn] at HIM
    by_cases hmS : (m : Int) = S
    · have hV : meetR S (xs.map Iw.ks) on = (xs.map Iw.ks).all fun c => c.any (soR on) := by simp [meetR, hcn, hm, hmS]
      have HV : Hid (meetR S (xs.map Iw.ks) on = !(xs.map Iw.ks).any fun c => !c.any (soR on)) := by show _ = _; rw [hV, not_any_not]
      have HCN := kide (cnfR_in hcn)
      have HN := kide hn
      have HM := kide hm
      have HS := kide hs
      have HO := kide ho
      have hne : ((m : Int) != S) = false := by simp [hmS]
      have HMS := kide hmS
      generalize meetR S (xs.map Iw.ks) on = V at *
      clear hV hcn hs ho hn hm hmS hb1 s0
      go_enter Tryd.func26, Tryd.ntmps26
      go_wp2_with fail
      generalize ((w.alloc (Obj.cells #[Value.int .i64 S, Value.slice a n c] 29)).alloc (Obj.cells #[Value.slice b m c2] 37)) = w0 at *
      refine Calls.mono HIM.out ?_
      rintro e w1 ⟨rfl, hb1⟩
      have k0 := (kcell hb1 w.heap.size 0 (by omega)).trans c0
      have k1 := (kcell hb1 w.heap.size 1 (by omega)).trans c1
      have k2 := (kcell hb1 (w.heap.size + 1) 0 l0).trans c3
      have B2 := kide (B1.out.trans (hb1.mono B1.out.size))
      have l1 : w.heap.size + 1 < w1.heap.size := by have := hb1.size; omega
      have l2 : w.heap.size < w1.heap.size := by omega
      clear hb1 c0 c1 c3 l0 HIM
      go_wp2_with fail
      have hbn : Below w1.heap.size w1 (w1.alloc (Obj.cells #[.func (.func 50) #[] #[.pointer (some ⟨w.heap.size + 1, 0, none⟩)]] 88)) := (Below.refl _ _).alloc (Nat.le_refl _) _
      have q2 := (kcell hbn (w.heap.size + 1) 0 l1).trans k2
      have q3 : (w1.alloc (Obj.cells #[.func (.func 50) #[] #[.pointer (some ⟨w.heap.size + 1, 0, none⟩)]] 88)).cell? ⟨w1.heap.size, 0, none⟩ = some (.func (.func 50) #[] #[.pointer (some ⟨w.heap.size + 1, 0, none⟩)]) := by simp
      have hbw := B2.out.trans (hbn.mono B2.out.size)
      refine Calls.mono (ContainsSS_any 52 enter_Meets2 (.pointer (some ⟨w1.heap.size, 0, none⟩)) (fun k => !k.any (soR on)) a c n xs _ (HS.out.later hbw) HN.out
          (fun u hu x hx => by
            obtain ⟨i, hi⟩ := List.getElem?_of_mem hx
            refine fails_any S HCN.out.1.2 b m c2 on x.a x.c x.ks (w.heap.size + 1) w1.heap.size u ?_ (HO.out.later (hbw.trans (hu.mono hbw.size))) HM.out HMS.out (HCN.out.2.2 x.ks (List.mem_map_of_mem hx)).2 ((kcell hu _ _ (by simp; omega)).trans q2) ((kcell hu _ _ (by simp)).trans q3)
            rcases (HS.out.later hbw).2 with h | ⟨b, o, -, hc⟩
            · subst h; simp at hi
            · exact (hc i x hi).2.later hu)) ?_
      rintro e w2 ⟨rfl, hb2⟩
      go_wp2_with fail
      go_ret
      exact ⟨ret_bool (by have h := HV.out; rw [List.any_map] at h; exact h.symm), hbw.trans (hb2.mono hbw.size)⟩
    · have HV : Hid (meetR S (xs.map Iw.ks) on = false) := by show _ = _; simp [meetR, hm, hmS]
      have hne : ((m : Int) != S) = true := by simp [hmS]
      clear hcn hs ho hn hm hmS hb1 s0
      go_enter Tryd.func26, Tryd.ntmps26
      go_wp2_with fail
      generalize ((w.alloc (Obj.cells #[Value.int .i64 S, Value.slice a n c] 29)).alloc (Obj.cells #[Value.slice b m c2] 37)) = w0 at *
      refine Calls.mono HIM.out ?_
      rintro e w1 ⟨rfl, hb1⟩
      have k0 := (kcell hb1 w.heap.size 0 (by omega)).trans c0
      have k2 := (kcell hb1 (w.heap.size + 1) 0 l0).trans c3
      have B2 := kide (B1.out.trans (hb1.mono B1.out.size))
      have l1 : w.heap.size + 1 < w1.heap.size := by have := hb1.size; omega
      clear hb1
      go_wp2_with fail
      go_ret
      exact ⟨ret_bool HV.out.symm, B2.out⟩

end Go.Proofs.YtmfamdonbgmjbaaDoor
