/- What the program's GraphOk answers. -/
import Derived.Test.YtddgldfjeklhbaaJF
namespace Go.Proofs.Ytddgldfjeklhbaa
set_option linter.unusedVariables false
set_option linter.unusedSimpArgs false
open Go.RowKit

/-- A call's own box of two cells still stands. -/
def Bx (w : World) (o1 : Obj) (wk : World) : Prop := Below (w.heap.size + 1) (w.alloc o1) wk
theorem Bx.start (w : World) (o1 : Obj) : Bx w o1 (w.alloc o1) := Below.refl _ _
theorem Bx.size {w wk : World} {o1 : Obj} (h : Bx w o1 wk) : w.heap.size + 1 ≤ wk.heap.size := by have := Below.size h; simpa using this
theorem Bx.next {w wk w1 : World} {o1 : Obj} (h : Bx w o1 wk) (hb : Below wk.heap.size wk w1) : Bx w o1 w1 := Below.trans h (hb.mono h.size)
theorem Bx.box {w wk : World} {o1 : Obj} (h : Bx w o1 wk) (o2 : Obj) : Bx w o1 (wk.alloc o2) := h.next ((Below.refl _ _).alloc (Nat.le_refl _) _)
theorem Bx.below {w wk : World} {o1 : Obj} (h : Bx w o1 wk) : Below w.heap.size w wk := Below.trans (Below.alloc (Below.refl _ _) (Nat.le_refl _) _) (Below.mono h (by omega))
theorem Bx.one {w wk : World} {cs : Array Value} {t : TypeId} (h : Bx w (.cells cs t) wk) (i : Nat) : wk.cell? ⟨w.heap.size, i, none⟩ = cs[i]? := by
  rw [Below.cell h (by simp)]; simp [go_sem]
theorem Bx.drew {w wk : World} {o1 : Obj} (h : Bx w o1 wk) : Bx w o1 wk.drew := Below.drew h

set_option maxHeartbeats 1000000 in
theorem implGraph_any (z : Gz) (w : World) (hz : RdG w z) :
    Calls Try.prog 36 #[z.val] w fun e w' => e = .returned (.bool (graphR z.ks (z.bs.map Yg.ct))) ∧ Below w.heap.size w w' := by
  obtain ⟨a1, c1, ks, a2, c2, bs⟩ := z
  obtain ⟨z1, z2⟩ := hz
  simp only [Gz.val] at z1 z2 ⊢
  have hl1 := z1.1
  have hl2 := z2.1
  have s0 := Bx.start w (.cells #[Value.slice a1 ks.length c1, Value.slice a2 bs.length c2] 40)
  by_cases hlong : 200 < ks.length ∨ 1000 < bs.length
  · rw [graphR_long (by simpa using hlong)]
    rcases hlong with h | h
    · go_enter Try.func36, Try.ntmps36
      go_wp2_with fail
      go_ret
      exact ⟨rfl, s0.below⟩
    · by_cases h1 : 200 < ks.length
      all_goals
        go_enter Try.func36, Try.ntmps36
        go_wp2_with fail
        go_ret
        exact ⟨rfl, s0.below⟩
  have hs1 : ks.length ≤ 200 := by omega
  have hs2 : bs.length ≤ 1000 := by omega
  generalize hZ : graphR ks (bs.map Yg.ct) = Z
  have HZ := kide hZ
  have HR1 := kide (fun u (hu : Below w.heap.size w u) => z1.later hu)
  have HR2 := kide (fun u (hu : Below w.heap.size w u) => z2.later hu)
  clear hZ hlong z1 z2
  go_enter Try.func36, Try.ntmps36
  go_wp2_with fail
  go_loopw [20] (fun i wr => ∃ k : Nat, k ≤ ks.length ∧ i = .int .i64 k ∧ (∀ j, j < k → wOk (ks.getD j 0) = true) ∧ Bx w (.cells #[Value.slice a1 ks.length c1, Value.slice a2 bs.length c2] 40) wr) (fun i _ => ks.length - (intOf i).toNat)
  case atStart => exact ⟨0, Nat.zero_le _, rfl, fun j hj => by omega, s0⟩
  case round =>
    obtain ⟨k, hk, rfl, hok, s1⟩ := hrel
    by_cases hlt : k < ks.length
    · obtain ⟨-, -, h | ⟨b, o, rfl, hc⟩⟩ := HR1.out wr s1.below
      · subst h; simp at hlt
      obtain ⟨x, hx⟩ : ∃ x, ks.getD k 0 = x := ⟨_, rfl⟩
      have p0 := hc k hlt
      rw [hx] at p0
      have hki : (k : Int) < (ks.length : Int) := by omega
      have HX := kide hx
      have HK := kide hok
      have HW := kide (fun u => widthOk_any x u)
      clear hc hx hok s0
      cases hw : wOk x with
      | false =>
        have HF := kide (graphR_wide (bs := bs.map Yg.ct) hlt (by rw [HX.out]; exact hw))
        rw [hw] at HW
        clear hw
        go_wp2_with (go_at_call 49; refine Calls.mono (HW.out _) ?_; rintro e w1 ⟨rfl, rfl⟩)
        go_ret
        exact ⟨ret_bool (HF.out.symm.trans HZ.out), s1.below⟩
      | true =>
        rw [hw] at HW
        have HWW := kide hw
        clear hw
        go_wp2_with (go_at_call 49; refine Calls.mono (HW.out _) ?_; rintro e w1 ⟨rfl, rfl⟩)
        go_roundw
        case rel =>
          refine ⟨k + 1, by omega, by go_num, fun j hj => ?_, s1⟩
          by_cases hjk : j < k
          · exact HK.out j hjk
          · have : j = k := by omega
            subst this
            rw [HX.out]; exact HWW.out
        case measure => simp [intOf]; omega
    · have e : k = ks.length := by omega
      subst e
      have HK := kide hok
      clear hok s0 hlt
      have g1 := s1.one 1
      simp at g1
      go_wp2_with fail
      obtain ⟨wo, hwo⟩ : ∃ wo, wo = wr := ⟨_, rfl⟩
      subst hwo
      go_loopw [31] (fun i wr => ∃ k : Nat, k ≤ bs.length ∧ i = .int .i64 k ∧ (∀ (j : Nat) (s : Yg), j < k → bs[j]? = some s → brOk ks s.ct = true) ∧ Bx w (.cells #[Value.slice a1 ks.length c1, Value.slice a2 bs.length c2] 40) wr) (fun i _ => bs.length - (intOf i).toNat)
      case atStart => exact ⟨0, Nat.zero_le _, rfl, fun j s hj => by omega, s1⟩
      case round =>
        obtain ⟨k, hk, rfl, hok, s2⟩ := hrel
        by_cases hlt : k < bs.length
        · obtain ⟨-, h | ⟨b, o, rfl, hc⟩⟩ := HR2.out wr s2.below
          · subst h; simp at hlt
          obtain ⟨⟨s, ax, cs⟩, hx⟩ : ∃ x, bs[k]? = some x := ⟨_, List.getElem?_eq_getElem hlt⟩
          obtain ⟨⟨p0, p1, p2, p3⟩, pr, -⟩ := hc k _ hx
          simp only [Yg.hd] at p0 p1 p2 p3 pr
          have hki : (k : Int) < (bs.length : Int) := by omega
          have HX := kide hx
          have HK2 := kide hok
          have s3 := s2.box (.cells #[Value.int .i64 s.v, Value.int .i64 s.lo, Value.int .i64 s.bw, Value.slice ax s.ws.length cs] 54)
          have HBO := kide (barOk_any a1 (some ⟨b, o, none⟩) c1 bs.length c2 ks s ax cs _ (HR1.out _ s3.below) (pr.later ((Below.refl _ _).alloc (Nat.le_refl _) (.cells #[Value.int .i64 s.v, Value.int .i64 s.lo, Value.int .i64 s.bw, Value.slice ax s.ws.length cs] 54))))
          have HBAD : Hid (brOk ks s = false → Z = false) := fun h => HZ.out.symm.trans (graphR_bar (k := k) (s := s) (by rw [List.getElem?_map, hx]; rfl) h)
          have HGOOD : Hid (brOk ks s = true → ∀ (j : Nat) (t : Yg), j < k + 1 → bs[j]? = some t → brOk ks t.ct = true) := fun h j t hj ht => by
            by_cases hjk : j < k
            · exact hok j t hjk ht
            · have : j = k := by omega
              subst this
              rw [hx] at ht
              cases ht
              exact h
          have g0 := s2.one 0
          have g1' := s2.one 1
          simp at g0 g1'
          obtain ⟨v, lo, bw, ws⟩ := s
          simp only [] at p0 p1 p2 p3 s3 HBO
          generalize brOk ks ⟨v, lo, bw, ws⟩ = B at *
          have hwl : w.heap.size < wr.heap.size := s2.size
          clear hc hx hok s1 pr g1
          cases B with
          | false =>
            have HF := kide (HBAD.out rfl)
            go_wp2_with fail
            refine Calls.mono HBO.out ?_
            rintro e w1 ⟨rfl, hb1⟩
            have s4 := s3.next hb1
            go_wp2_with fail
            go_ret
            exact ⟨ret_bool HF.out.symm, s4.below⟩
          | true =>
            have HF := kide (HGOOD.out rfl)
            go_wp2_with fail
            refine Calls.mono HBO.out ?_
            rintro e w1 ⟨rfl, hb1⟩
            have s4 := s3.next hb1
            go_wp2_with fail
            go_roundw
            case rel => exact ⟨k + 1, by omega, by go_num, HF.out, s4⟩
            case measure => simp [intOf]; omega
        · have e : k = bs.length := by omega
          subst e
          have HT := kide (graphR_good (bs := bs.map Yg.ct) hs1 (by simpa using hs2) HK.out (fun j s hj => by
            rw [List.getElem?_map] at hj
            cases hb : bs[j]? with
            | none => rw [hb] at hj; cases hj
            | some t =>
              rw [hb] at hj
              cases hj
              exact hok j t (List.getElem?_eq_some_iff.1 hb).1 hb))
          clear hok s1
          go_wp2_with fail
          go_ret
          exact ⟨ret_bool (HT.out.symm.trans HZ.out), s2.below⟩

end Go.Proofs.Ytddgldfjeklhbaa
