/- Several texts in one. -/
import Derived.Test.YthoiajpbpoglfaaZGAE
import Derived.Test.YthoiajpbpoglfaaZGAC
import Derived.Test.YthoiajpbpoglfaaZGAB

/- What the program's barOk answers. -/
namespace Go.Proofs.Ythoiajpbpoglfaa
set_option linter.unusedVariables false
set_option linter.unusedSimpArgs false
open Go.RowKit

/-- Two boxes of a call stand. -/
def Bb (w : World) (o1 o2 : Obj) (wk : World) : Prop := Below (w.heap.size + 2) ((w.alloc o1).alloc o2) wk
theorem Bb.start (w : World) (o1 o2 : Obj) : Bb w o1 o2 ((w.alloc o1).alloc o2) := Below.refl _ _
theorem Bb.size {w wk : World} {o1 o2 : Obj} (h : Bb w o1 o2 wk) : w.heap.size + 2 ≤ wk.heap.size := by have := Below.size h; simpa using this
theorem Bb.next {w wk w1 : World} {o1 o2 : Obj} (h : Bb w o1 o2 wk) (hb : Below wk.heap.size wk w1) : Bb w o1 o2 w1 := Below.trans h (hb.mono h.size)
theorem Bb.below {w wk : World} {o1 o2 : Obj} (h : Bb w o1 o2 wk) : Below w.heap.size w wk := Below.trans (Below.alloc (Below.alloc (Below.refl _ _) (Nat.le_refl _) _) (by simp) _) (Below.mono h (by omega))
theorem Bb.one {w wk : World} {cs : Array Value} {t : TypeId} {o2 : Obj} (h : Bb w (.cells cs t) o2 wk) (i : Nat) : wk.cell? ⟨w.heap.size, i, none⟩ = cs[i]? := by
  rw [Below.cell h (by simp)]; simp [go_sem]
theorem Bb.two {w wk : World} {cs : Array Value} {t : TypeId} {o1 : Obj} (h : Bb w o1 (.cells cs t) wk) (i : Nat) : wk.cell? ⟨w.heap.size + 1, i, none⟩ = cs[i]? := by
  rw [Below.cell h (by simp)]; simp [go_sem]

set_option maxHeartbeats 1000000 in
theorem barOk_any (a1 a2 : Option Addr) (c1 n2 c2 : Nat) (ks : List Int) (s : Yc) (a : Option Addr) (c : Nat) (w : World) (hk : RdI w a1 ks) (hr : Rd w a s.ws) :
    Calls Try.prog 64 #[.agg #[.slice a1 ks.length c1, .slice a2 n2 c2], .agg #[.int .i64 s.v, .int .i64 s.lo, .int .i64 s.bw, .slice a s.ws.length c]] w fun e w' => e = .returned (.bool (brOk ks s)) ∧ Below w.heap.size w w' := by
  have hl := hk.1
  have hlw := hr.1
  have HN := kide (fun (x : Int) u => isNode_any a1 a2 ks.length c1 n2 c2 x u hl)
  have HOK := kide (fun u (hu : Below w.heap.size w u) => implOk_any s.bw a c s.ws u (hr.later hu))
  have HRD := kide (fun u (hu : Below w.heap.size w u) => hk.later hu)
  obtain ⟨v, lo, bw, ws⟩ := s
  simp only [brOk] at HOK hlw hr ⊢
  have s0 := Bb.start w (.cells #[Value.slice a1 ks.length c1, Value.slice a2 n2 c2] 32) (.cells #[Value.int .i64 v, Value.int .i64 lo, Value.int .i64 bw, Value.slice a ws.length c] 86)
  clear hk hr
  have HN1 := kide (HN.out v)
  have HN2 := kide (HN.out lo)
  cases h1 : ndOk ks.length v with
  | false =>
    rw [h1] at HN1
    rw [Bool.false_and]
    clear h1
    go_enter Try.func64, Try.ntmps64
    go_wp2_with fail
    refine Calls.mono (HN1.out _) ?_
    rintro e w1 ⟨rfl, hb1⟩
    have s1 := s0.next hb1
    have g0 := s1.one 0
    have g1 := s1.one 1
    have k0 := s1.two 0
    have k1 := s1.two 1
    have k2 := s1.two 2
    have k3 := s1.two 3
    simp at g0 g1 k0 k1 k2 k3
    go_wp2_with fail
    go_ret
    exact ⟨rfl, s1.below⟩
  | true =>
    rw [h1] at HN1
    rw [Bool.true_and]
    obtain ⟨k, rfl, hk2⟩ : ∃ k : Nat, v = (k : Int) ∧ k < ks.length := ⟨v.toNat, by simp [ndOk] at h1; omega, by simp [ndOk] at h1; omega⟩
    have hki : (k : Int) < (ks.length : Int) := by omega
    rw [Int.toNat_natCast]
    obtain ⟨x, hx⟩ : ∃ x, ks.getD k 0 = x := ⟨_, rfl⟩
    rw [hx]
    have HX := kide hx
    clear h1 hx
    by_cases h2 : lo = -1
    · subst h2
      rw [if_pos rfl]
      have hm : ((-1 : Int) == -1) = true := by simp
      cases h3 : rightB bw ws with
      | false =>
        rw [h3] at HOK
        rw [Bool.false_and]
        clear h3
        go_enter Try.func64, Try.ntmps64
        go_wp2_with fail
        refine Calls.mono (HN1.out _) ?_
        rintro e w1 ⟨rfl, hb1⟩
        have s1 := s0.next hb1
        have g0 := s1.one 0
        have g1 := s1.one 1
        have k0 := s1.two 0
        have k1 := s1.two 1
        have k2 := s1.two 2
        have k3 := s1.two 3
        simp at g0 g1 k0 k1 k2 k3
        obtain ⟨-, -, h | ⟨b, o, rfl, hc⟩⟩ := HRD.out w1 s1.below
        · subst h; simp at hk2
        have q0 := hc k hk2
        rw [HX.out] at q0
        clear hc
        clear hb1 s0
        go_wp2_with fail
        refine Calls.mono (HOK.out _ s1.below) ?_
        rintro e w2 ⟨rfl, hb2⟩
        have s2 := s1.next hb2
        have i2 := s2.two 2
        simp at i2
        clear hb2 s1
        go_wp2_with fail
        go_ret
        exact ⟨rfl, s2.below⟩
      | true =>
        rw [h3] at HOK
        rw [Bool.true_and]
        clear h3
        go_enter Try.func64, Try.ntmps64
        go_wp2_with fail
        refine Calls.mono (HN1.out _) ?_
        rintro e w1 ⟨rfl, hb1⟩
        have s1 := s0.next hb1
        have g0 := s1.one 0
        have g1 := s1.one 1
        have k0 := s1.two 0
        have k1 := s1.two 1
        have k2 := s1.two 2
        have k3 := s1.two 3
        simp at g0 g1 k0 k1 k2 k3
        obtain ⟨-, -, h | ⟨b, o, rfl, hc⟩⟩ := HRD.out w1 s1.below
        · subst h; simp at hk2
        have q0 := hc k hk2
        rw [HX.out] at q0
        clear hc
        clear hb1 s0
        go_wp2_with fail
        refine Calls.mono (HOK.out _ s1.below) ?_
        rintro e w2 ⟨rfl, hb2⟩
        have s2 := s1.next hb2
        have i2 := s2.two 2
        simp at i2
        clear hb2 s1
        go_wp2_with fail
        go_ret
        exact ⟨ret_bool (by first | rfl | (by_cases hq : bw = x <;> simp [hq])), s2.below⟩
    · rw [if_neg h2]
      have hm : (lo == -1) = false := by simp [h2]
      clear h2
      cases h3 : ndOk ks.length lo with
      | false =>
        rw [h3] at HN2
        simp only [Bool.false_and]
        clear h3
        go_enter Try.func64, Try.ntmps64
        go_wp2_with fail
        refine Calls.mono (HN1.out _) ?_
        rintro e w1 ⟨rfl, hb1⟩
        have s1 := s0.next hb1
        have g0 := s1.one 0
        have g1 := s1.one 1
        have k0 := s1.two 0
        have k1 := s1.two 1
        have k2 := s1.two 2
        have k3 := s1.two 3
        simp at g0 g1 k0 k1 k2 k3
        obtain ⟨-, -, h | ⟨b, o, rfl, hc⟩⟩ := HRD.out w1 s1.below
        · subst h; simp at hk2
        have q0 := hc k hk2
        rw [HX.out] at q0
        clear hc
        clear hb1 s0
        go_wp2_with fail
        refine Calls.mono (HN2.out _) ?_
        rintro e w2 ⟨rfl, hb2⟩
        have s2 := s1.next hb2
        have f0 := s2.one 0
        have i0 := s2.two 0
        have i1 := s2.two 1
        have i2 := s2.two 2
        have i3 := s2.two 3
        simp at f0 i0 i1 i2 i3
        clear hb2 s1
        go_wp2_with fail
        go_ret
        exact ⟨rfl, s2.below⟩
      | true =>
        rw [h3] at HN2
        obtain ⟨j, rfl, hj2⟩ : ∃ j : Nat, lo = (j : Int) ∧ j < ks.length := ⟨lo.toNat, by simp [ndOk] at h3; omega, by simp [ndOk] at h3; omega⟩
        have hji : (j : Int) < (ks.length : Int) := by omega
        simp only [Bool.true_and, Int.toNat_natCast]
        obtain ⟨y, hy⟩ : ∃ y, ks.getD j 0 = y := ⟨_, rfl⟩
        simp only [hy]
        have HY := kide hy
        clear h3 hy
        by_cases h4 : (j : Int) = k
        · have hR : (decide ((j : Int) ≠ k) && decide (y = x) && decide (bw = 0) && decide (ws.length = 0)) = false := by simp [h4]
          rw [hR]
          have hne : ((j : Int) != (k : Int)) = false := by simp [h4]
          clear hR h4
          go_enter Try.func64, Try.ntmps64
          go_wp2_with fail
          refine Calls.mono (HN1.out _) ?_
          rintro e w1 ⟨rfl, hb1⟩
          have s1 := s0.next hb1
          have g0 := s1.one 0
          have g1 := s1.one 1
          have k0 := s1.two 0
          have k1 := s1.two 1
          have k2 := s1.two 2
          have k3 := s1.two 3
          simp at g0 g1 k0 k1 k2 k3
          obtain ⟨-, -, h | ⟨b, o, rfl, hc⟩⟩ := HRD.out w1 s1.below
          · subst h; simp at hk2
          have q0 := hc k hk2
          rw [HX.out] at q0
          clear hc
          clear hb1 s0
          go_wp2_with fail
          refine Calls.mono (HN2.out _) ?_
          rintro e w2 ⟨rfl, hb2⟩
          have s2 := s1.next hb2
          have f0 := s2.one 0
          have i0 := s2.two 0
          have i1 := s2.two 1
          have i2 := s2.two 2
          have i3 := s2.two 3
          simp at f0 i0 i1 i2 i3
          clear hb2 s1
          go_wp2_with fail
          go_ret
          exact ⟨rfl, s2.below⟩
        · have hne : ((j : Int) != (k : Int)) = true := by simp; omega
          have hd : decide ((j : Int) ≠ k) = true := by simp; omega
          rw [hd, Bool.true_and]
          clear hd h4
          have hC : ∃ E F G : Bool, E = (y == x) ∧ F = (bw == 0) ∧ G = ((ws.length : Int) == 0) := ⟨_, _, _, rfl, rfl, rfl⟩
          obtain ⟨E, F, G, hE, hF, hG⟩ := hC
          have hR : (decide (y = x) && decide (bw = 0) && decide (ws.length = 0)) = (E && F && G) := by
            rw [hE, hF, hG]
            congr 1
            by_cases h : ws.length = 0 <;> simp [h]
          rw [hR]
          clear hR
          have hE' := hE.symm
          have hF' := hF.symm
          have hG' := hG.symm
          clear hE hF hG
          cases E <;> cases F <;> cases G
          all_goals
            go_enter Try.func64, Try.ntmps64
            go_wp2_with fail
            refine Calls.mono (HN1.out _) ?_
            rintro e w1 ⟨rfl, hb1⟩
            have s1 := s0.next hb1
            have g0 := s1.one 0
            have g1 := s1.one 1
            have k0 := s1.two 0
            have k1 := s1.two 1
            have k2 := s1.two 2
            have k3 := s1.two 3
            simp at g0 g1 k0 k1 k2 k3
            obtain ⟨-, -, h | ⟨b, o, rfl, hc⟩⟩ := HRD.out w1 s1.below
            · subst h; simp at hk2
            have q0 := hc k hk2
            rw [HX.out] at q0
            clear hc hb1 s0
            go_wp2_with fail
            refine Calls.mono (HN2.out _) ?_
            rintro e w2 ⟨rfl, hb2⟩
            have s2 := s1.next hb2
            have f0 := s2.one 0
            have i0 := s2.two 0
            have i1 := s2.two 1
            have i2 := s2.two 2
            have i3 := s2.two 3
            simp at f0 i0 i1 i2 i3
            clear hb2 s1
            obtain ⟨-, -, h | ⟨b', o', he, hc2⟩⟩ := HRD.out w2 s2.below
            · subst h; simp at hk2
            cases he
            have q1 := hc2 j hj2
            rw [HY.out] at q1
            clear hc2
            go_wp2_with fail
            go_ret
            exact ⟨rfl, s2.below⟩

end Go.Proofs.Ythoiajpbpoglfaa

/- What the program's GraphOk answers. -/
namespace Go.Proofs.Ythoiajpbpoglfaa
set_option linter.unusedVariables false
set_option linter.unusedSimpArgs false
open Go.RowKit

/-- A call's own box of two cells still stands. -/
def Bx (w : World) (o1 : Obj) (wk : World) : Prop := Below (w.heap.size + 1) (w.alloc o1) wk
theorem Bx.start (w : World) (o1 : Obj) : Bx w o1 (w.alloc o1) := Below.refl _ _
theorem Bx.size {w wk : World} {o1 : Obj} (h : Bx w o1 wk) : w.heap.size + 1 ≤ wk.heap.size := by have := Below.size h; simpa using this
theorem Bx.next {w wk w1 : World} {o1 : Obj} (h : Bx w o1 wk) (hb : Below wk.heap.size wk w1) : Bx w o1 w1 := Below.trans h (hb.mono h.size)
theorem Bx.box {w wk : World} {o1 : Obj} (h : Bx w o1 wk) (o2 : Obj) : Bx w o1 (wk.alloc o2) := h.next ((Below.refl _ _).alloc (Nat.le_refl _) _)
theorem Bx.below {w wk : World} {o1 : Obj} (h : Bx w o1 wk) : Below w.heap.size w wk := Below.trans (Below.alloc (Below.refl _ _) (Nat.le_refl _) _) (Below.mono h (by omega))
theorem Bx.one {w wk : World} {cs : Array Value} {t : TypeId} (h : Bx w (.cells cs t) wk) (i : Nat) : wk.cell? ⟨w.heap.size, i, none⟩ = cs[i]? := by
  rw [Below.cell h (by simp)]; simp [go_sem]
theorem Bx.drew {w wk : World} {o1 : Obj} (h : Bx w o1 wk) : Bx w o1 wk.drew := Below.drew h

set_option maxHeartbeats 1000000 in
theorem implGraph_any (z : Gz) (w : World) (hz : RdG w z) :
    Calls Try.prog 33 #[z.val] w fun e w' => e = .returned (.bool (graphR z.ks (z.bs.map Yg.ct))) ∧ Below w.heap.size w w' := by
  obtain ⟨a1, c1, ks, a2, c2, bs⟩ := z
  obtain ⟨z1, z2⟩ := hz
  simp only [Gz.val] at z1 z2 ⊢
  have hl1 := z1.1
  have hl2 := z2.1
  have s0 := Bx.start w (.cells #[Value.slice a1 ks.length c1, Value.slice a2 bs.length c2] 32)
  by_cases hlong : 200 < ks.length ∨ 1000 < bs.length
  · rw [graphR_long (by simpa using hlong)]
    rcases hlong with h | h
    · go_enter Try.func33, Try.ntmps33
      go_wp2_with fail
      go_ret
      exact ⟨rfl, s0.below⟩
    · by_cases h1 : 200 < ks.length
      all_goals
        go_enter Try.func33, Try.ntmps33
        go_wp2_with fail
        go_ret
        exact ⟨rfl, s0.below⟩
  have hs1 : ks.length ≤ 200 := by omega
  have hs2 : bs.length ≤ 1000 := by omega
  generalize hZ : graphR ks (bs.map Yg.ct) = Z
  have HZ := kide hZ
  have HR1 := kide (fun u (hu : Below w.heap.size w u) => z1.later hu)
  have HR2 := kide (fun u (hu : Below w.heap.size w u) => z2.later hu)
  clear hZ hlong z1 z2
  go_enter Try.func33, Try.ntmps33
  go_wp2_with fail
  go_loopw [20] (fun i wr => ∃ k : Nat, k ≤ ks.length ∧ i = .int .i64 k ∧ (∀ j, j < k → wOk (ks.getD j 0) = true) ∧ Bx w (.cells #[Value.slice a1 ks.length c1, Value.slice a2 bs.length c2] 32) wr) (fun i _ => ks.length - (intOf i).toNat)
  case atStart => exact ⟨0, Nat.zero_le _, rfl, fun j hj => by omega, s0⟩
  case round =>
    obtain ⟨k, hk, rfl, hok, s1⟩ := hrel
    by_cases hlt : k < ks.length
    · obtain ⟨-, -, h | ⟨b, o, rfl, hc⟩⟩ := HR1.out wr s1.below
      · subst h; simp at hlt
      obtain ⟨x, hx⟩ : ∃ x, ks.getD k 0 = x := ⟨_, rfl⟩
      have p0 := hc k hlt
      rw [hx] at p0
      have hki : (k : Int) < (ks.length : Int) := by omega
      have HX := kide hx
      have HK := kide hok
      have HW := kide (fun u => widthOk_any x u)
      clear hc hx hok s0
      cases hw : wOk x with
      | false =>
        have HF := kide (graphR_wide (bs := bs.map Yg.ct) hlt (by rw [HX.out]; exact hw))
        rw [hw] at HW
        clear hw
        go_wp2_with (go_at_call 63; refine Calls.mono (HW.out _) ?_; rintro e w1 ⟨rfl, rfl⟩)
        go_ret
        exact ⟨ret_bool (HF.out.symm.trans HZ.out), s1.below⟩
      | true =>
        rw [hw] at HW
        have HWW := kide hw
        clear hw
        go_wp2_with (go_at_call 63; refine Calls.mono (HW.out _) ?_; rintro e w1 ⟨rfl, rfl⟩)
        go_roundw
        case rel =>
          refine ⟨k + 1, by omega, by go_num, fun j hj => ?_, s1⟩
          by_cases hjk : j < k
          · exact HK.out j hjk
          · have : j = k := by omega
            subst this
            rw [HX.out]; exact HWW.out
        case measure => simp [intOf]; omega
    · have e : k = ks.length := by omega
      subst e
      have HK := kide hok
      clear hok s0 hlt
      have g1 := s1.one 1
      simp at g1
      go_wp2_with fail
      obtain ⟨wo, hwo⟩ : ∃ wo, wo = wr := ⟨_, rfl⟩
      subst hwo
      go_loopw [31] (fun i wr => ∃ k : Nat, k ≤ bs.length ∧ i = .int .i64 k ∧ (∀ (j : Nat) (s : Yg), j < k → bs[j]? = some s → brOk ks s.ct = true) ∧ Bx w (.cells #[Value.slice a1 ks.length c1, Value.slice a2 bs.length c2] 32) wr) (fun i _ => bs.length - (intOf i).toNat)
      case atStart => exact ⟨0, Nat.zero_le _, rfl, fun j s hj => by omega, s1⟩
      case round =>
        obtain ⟨k, hk, rfl, hok, s2⟩ := hrel
        by_cases hlt : k < bs.length
        · obtain ⟨-, h | ⟨b, o, rfl, hc⟩⟩ := HR2.out wr s2.below
          · subst h; simp at hlt
          obtain ⟨⟨s, ax, cs⟩, hx⟩ : ∃ x, bs[k]? = some x := ⟨_, List.getElem?_eq_getElem hlt⟩
          obtain ⟨⟨p0, p1, p2, p3⟩, pr, -⟩ := hc k _ hx
          simp only [Yg.hd] at p0 p1 p2 p3 pr
          have hki : (k : Int) < (bs.length : Int) := by omega
          have HX := kide hx
          have HK2 := kide hok
          have s3 := s2.box (.cells #[Value.int .i64 s.v, Value.int .i64 s.lo, Value.int .i64 s.bw, Value.slice ax s.ws.length cs] 86)
          have HBO := kide (barOk_any a1 (some ⟨b, o, none⟩) c1 bs.length c2 ks s ax cs _ (HR1.out _ s3.below) (pr.later ((Below.refl _ _).alloc (Nat.le_refl _) (.cells #[Value.int .i64 s.v, Value.int .i64 s.lo, Value.int .i64 s.bw, Value.slice ax s.ws.length cs] 86))))
          have HBAD : Hid (brOk ks s = false → Z = false) := fun h => HZ.out.symm.trans (graphR_bar (k := k) (s := s) (by rw [List.getElem?_map, hx]; rfl) h)
          have HGOOD : Hid (brOk ks s = true → ∀ (j : Nat) (t : Yg), j < k + 1 → bs[j]? = some t → brOk ks t.ct = true) := fun h j t hj ht => by
            by_cases hjk : j < k
            · exact hok j t hjk ht
            · have : j = k := by omega
              subst this
              rw [hx] at ht
              cases ht
              exact h
          have g0 := s2.one 0
          have g1' := s2.one 1
          simp at g0 g1'
          obtain ⟨v, lo, bw, ws⟩ := s
          simp only [] at p0 p1 p2 p3 s3 HBO
          generalize brOk ks ⟨v, lo, bw, ws⟩ = B at *
          have hwl : w.heap.size < wr.heap.size := s2.size
          clear hc hx hok s1 pr g1
          cases B with
          | false =>
            have HF := kide (HBAD.out rfl)
            go_wp2_with fail
            refine Calls.mono HBO.out ?_
            rintro e w1 ⟨rfl, hb1⟩
            have s4 := s3.next hb1
            go_wp2_with fail
            go_ret
            exact ⟨ret_bool HF.out.symm, s4.below⟩
          | true =>
            have HF := kide (HGOOD.out rfl)
            go_wp2_with fail
            refine Calls.mono HBO.out ?_
            rintro e w1 ⟨rfl, hb1⟩
            have s4 := s3.next hb1
            go_wp2_with fail
            go_roundw
            case rel => exact ⟨k + 1, by omega, by go_num, HF.out, s4⟩
            case measure => simp [intOf]; omega
        · have e : k = bs.length := by omega
          subst e
          have HT := kide (graphR_good (bs := bs.map Yg.ct) hs1 (by simpa using hs2) HK.out (fun j s hj => by
            rw [List.getElem?_map] at hj
            cases hb : bs[j]? with
            | none => rw [hb] at hj; cases hj
            | some t =>
              rw [hb] at hj
              cases hj
              exact hok j t (List.getElem?_eq_some_iff.1 hb).1 hb))
          clear hok s1
          go_wp2_with fail
          go_ret
          exact ⟨ret_bool (HT.out.symm.trans HZ.out), s2.below⟩

end Go.Proofs.Ythoiajpbpoglfaa

/- Contracts of the laws' own small functions on rows of words: how long, copied, compared. -/
namespace Go.Proofs.Ythoiajpbpoglfaa
set_option linter.unusedVariables false
set_option linter.unusedSimpArgs false
open Go.RowKit

/-- A word as it lies: its width, where its bits lie, how many rows of 64 there are. -/
structure Bh where
  wd : Int
  a : Option Addr
  n : Nat
  c : Nat

def RdBh (w : World) (a : Option Addr) (hs : List Bh) : Prop :=
  hs.length ≤ 1048576 ∧ (hs = [] ∨ ∃ b o, a = some ⟨b, o, none⟩ ∧ ∀ i h, hs[i]? = some h → w.cell? ⟨b, o + i * 2, none⟩ = some (.int .i64 h.wd) ∧ w.cell? ⟨b, o + i * 2 + 1, none⟩ = some (.slice h.a h.n h.c) ∧ h.n ≤ 9223372036854775807)

theorem RdBh.later {w w' : World} {a : Option Addr} {hs : List Bh} (h : RdBh w a hs) (hb : Below w.heap.size w w') : RdBh w' a hs := by
  refine ⟨h.1, ?_⟩
  rcases h.2 with h | ⟨b, o, rfl, hc⟩
  · exact .inl h
  · refine .inr ⟨b, o, rfl, fun i x hi => ?_⟩
    obtain ⟨f0, f1, f2⟩ := hc i x hi
    exact ⟨by rw [kcell hb _ _ (block_lt_of_cell f0)]; exact f0, by rw [kcell hb _ _ (block_lt_of_cell f1)]; exact f1, f2⟩

/-- What is left of L behind the rows of some words; -1: nothing. -/
def szBl : List Bh → Int → Int
  | [], L => L
  | h :: t, L => if (h.n : Int) ≤ L then szBl t (L - h.n) else -1

theorem szBl_range (hs : List Bh) (L : Int) (hL : 0 ≤ L) : szBl hs L = -1 ∨ 0 ≤ szBl hs L ∧ szBl hs L ≤ L ∧ ∀ h ∈ hs, (h.n : Int) ≤ L := by
  induction hs generalizing L with
  | nil => right; simp [szBl]; exact hL
  | cons h t ih =>
    rw [szBl]
    split
    · rename_i hc
      rcases ih (L - h.n) (by omega) with e | ⟨e1, e2, e3⟩
      · left; exact e
      · right
        refine ⟨e1, by omega, fun x hx => ?_⟩
        rcases List.mem_cons.1 hx with rfl | hx
        · exact hc
        · have := e3 x hx; omega
    · left; rfl



/-- A word: its width, where its bits lie, its bits. -/
structure Bw where
  wd : Int
  a : Option Addr
  c : Nat
  ws : List Nat

def Bw.ct (x : Bw) : Int × List Nat := (x.wd, x.ws)

def BwAt (w : World) (b o : Nat) (x : Bw) : Prop :=
  w.cell? ⟨b, o, none⟩ = some (.int .i64 x.wd) ∧ w.cell? ⟨b, o + 1, none⟩ = some (.slice x.a x.ws.length x.c) ∧ Rd w x.a x.ws ∧ in64 x.wd

theorem BwAt.later {w w' : World} {b o : Nat} {x : Bw} (h : BwAt w b o x) (hb : Below w.heap.size w w') : BwAt w' b o x := by
  obtain ⟨f0, f1, f2, f3⟩ := h
  exact ⟨by rw [kcell hb _ _ (block_lt_of_cell f0)]; exact f0, by rw [kcell hb _ _ (block_lt_of_cell f1)]; exact f1, f2.later hb, f3⟩

/-- A slice whose words are xs, wherever it lies. -/
def RdW (w : World) (a : Option Addr) (xs : List Bw) : Prop :=
  xs.length ≤ 1048576 ∧ (xs = [] ∨ ∃ b o, a = some ⟨b, o, none⟩ ∧ ∀ i n, xs[i]? = some n → BwAt w b (o + i * 2) n)

theorem RdW.later {w w' : World} {a : Option Addr} {xs : List Bw} (h : RdW w a xs) (hb : Below w.heap.size w w') : RdW w' a xs := by
  refine ⟨h.1, ?_⟩
  rcases h.2 with h | ⟨b, o, rfl, hc⟩
  · exact .inl h
  · exact .inr ⟨b, o, rfl, fun i n hi => (hc i n hi).later hb⟩

theorem eqBitsS_same (a b : Option Addr) (c d : Nat) (xs ys : List Bw) (w : World) (hr : RdW w a xs) (hs : RdW w b ys) (he : xs.map Bw.ct = ys.map Bw.ct) (n : Nat) (h1 : xs.length = n) (h2 : ys.length = n) :
    Calls Try.prog 10 #[.slice a n c, .slice b n d] w fun e w' => e = .returned (.bool true) ∧ Below w.heap.size w w' := by
  have hl1 := hr.1
  rw [h1] at hl1
  have hne : ((n : Int) != (n : Int)) = false := by simp
  have H1 := kide h1
  have H2 := kide h2
  have HE := kide he
  clear h1 h2 he
  go_enter Try.func10, Try.ntmps10
  go_wp2_with fail
  clear hne
  go_loopw [5] (fun i wr => ∃ k : Nat, k ≤ n ∧ i = .int .i64 k ∧ Below w.heap.size w wr) (fun i _ => n - (intOf i).toNat)
  case atStart => exact ⟨0, Nat.zero_le _, rfl, Below.refl _ _⟩
  case round =>
    obtain ⟨k, hk, rfl, hbel⟩ := hrel
    have HB := kide hbel
    by_cases hlt : k < n
    · obtain ⟨-, h | ⟨b1, o1, rfl, hc1⟩⟩ := hr
      · have := H1.out; subst h; simp at this; omega
      obtain ⟨-, h | ⟨b2, o2, rfl, hc2⟩⟩ := hs
      · have := H2.out; subst h; simp at this; omega
      obtain ⟨⟨s1, a1, c1, k1⟩, hx⟩ : ∃ x, xs[k]? = some x := ⟨xs[k]'(by rw [H1.out]; exact hlt), List.getElem?_eq_getElem _⟩
      obtain ⟨⟨s2, a2, c2, k2⟩, hy⟩ : ∃ y, ys[k]? = some y := ⟨ys[k]'(by rw [H2.out]; exact hlt), List.getElem?_eq_getElem _⟩
      have hxy : s1 = s2 ∧ k1 = k2 := by
        have h := congrArg (fun l => l[k]?) HE.out
        simp [hx, hy, Bw.ct] at h
        exact h
      obtain ⟨rfl, rfl⟩ := hxy
      obtain ⟨p0, p1, p2, -⟩ := (hc1 k _ hx).later hbel
      obtain ⟨q0, q1, q2, -⟩ := (hc2 k _ hy).later hbel
      simp only [] at p0 p1 p2 q0 q1 q2
      have l1 := block_lt_of_cell p0
      have l2 := block_lt_of_cell q0
      have i0 : (k : Int) < (n : Int) := by omega
      have HEQ : Hid (∀ u, Below wr.heap.size wr u → Calls Try.prog 38 #[.agg #[.int .i64 s1, .slice a1 k1.length c1], .agg #[.int .i64 s1, .slice a2 k1.length c2]] u fun e w' => e = .returned (.bool true) ∧ Below u.heap.size u w') := fun u hu => by
        have := eqBits_any s1 s1 a1 a2 c1 c2 k1 k1 u (p2.later hu) (q2.later hu)
        simpa using this
      clear hc1 hc2 hbel hx hy p2 q2
      go_wp2_with fail
      go_region_held3 (fun u => u.cell? ⟨b1, o1 + k * 2, none⟩ = some (Value.int .i64 s1) ∧ u.cell? ⟨b1, o1 + k * 2 + 1, none⟩ = some (Value.slice a1 k1.length c1) ∧ u.cell? ⟨b2, o2 + k * 2, none⟩ = some (Value.int .i64 s1) ∧ u.cell? ⟨b2, o2 + k * 2 + 1, none⟩ = some (Value.slice a2 k1.length c2)) (simp [*])
        ((go_at_call 38; refine Calls.mono (HEQ.out _ ?_) ?_; exact (Below.refl _ _).drew; rintro e w1 ⟨rfl, hb1⟩; replace hb1 := kundrew hb1; have k0 := kcell hb1 b1 (o1 + k * 2) l1; have k1' := kcell hb1 b1 (o1 + k * 2 + 1) l1; have k2 := kcell hb1 b2 (o2 + k * 2) l2; have k3 := kcell hb1 b2 (o2 + k * 2 + 1) l2))
      go_wp2_with fail
      go_roundw
      case rel => exact ⟨k + 1, by omega, by go_num, HB.out.trans (hb1.mono HB.out.size)⟩
      case measure => simp [intOf]; omega
    · clear hbel
      go_wp2_with fail
      go_ret
      exact ⟨rfl, HB.out⟩

theorem Try.infoBits : (Try.prog.info? 48).map (fun i => (i.zero, i.size, i.bytes)) = some (some (.agg #[.int .i64 0, .slice none 0 0]), 2, 32) := by kernel_rfl

theorem make_words (n : Nat) (hn : n ≤ 1048576) (kl kc : IntKind) (w : World) :
    (Instr.makeSlice 27 (.int kl (n : Int)) (.int kc (n : Int))).run Try.prog w = .ok (.slice (some ⟨w.heap.size, 0, none⟩) n n) (w.alloc (.cells (madeCells #[.int .i64 0, .slice none 0 0] (n * 2)) 48)) := by
  obtain ⟨i0, hi, hz0, hz1, hz2⟩ := info_parts Try.infoBits
  have := run_make (P := Try.prog) w 27 48 i0 _ Try.underlying27 hi hz0 kl kc n n (by omega) (Int.le_refl _) (by rw [hz2]; omega) (by omega)
  rw [hz1] at this
  simp only [Int.toNat_natCast] at this
  exact this

/-- A copied word: its bits lie in a block of their own. -/
def BwOwn (w : World) (G : Nat) (f : Nat → Value) (j : Nat) (x : Bw) : Prop :=
  f (j * 2) = .int .i64 x.wd ∧ f (j * 2 + 1) = .slice x.a x.ws.length x.c ∧ ∃ g, x.a = some ⟨g, 0, none⟩ ∧ G < g ∧ Own w g x.ws

theorem BwOwn.later {w w' : World} {G j : Nat} {f : Nat → Value} {x : Bw} (h : BwOwn w G f j x) (hb : Below w.heap.size w w') : BwOwn w' G f j x := by
  obtain ⟨h0, h1, g, h2, h3, h4⟩ := h
  exact ⟨h0, h1, g, h2, h3, h4.later hb h4.lt⟩

theorem BwOwn.put {w : World} {G j k : Nat} {f : Nat → Value} {x : Bw} (h : BwOwn w G f j x) (u v : Value) (hk : j < k) :
    BwOwn ((w.setCell ⟨G, k * 2, none⟩ u).setCell ⟨G, k * 2 + 1, none⟩ v) G (fun i => if i = k * 2 + 1 then v else if i = k * 2 then u else f i) j x := by
  obtain ⟨h0, h1, g, h2, h3, h4⟩ := h
  refine ⟨?_, ?_, g, h2, h3, (h4.other (by simp; omega) _).other (by simp; omega) _⟩
  · show (if _ then _ else _) = _
    rw [if_neg (by omega), if_neg (by omega)]; exact h0
  · show (if _ then _ else _) = _
    rw [if_neg (by omega), if_neg (by omega)]; exact h1


end Go.Proofs.Ythoiajpbpoglfaa

/- What math/bits.OnesCount64 answers: how many bits of a word are 1. -/
namespace Go.Proofs.Ythoiajpbpoglfaa
set_option linter.unusedVariables false
set_option linter.unusedSimpArgs false
open Go.RowKit

/-- f 0 + .. + f (k - 1). -/
def cnt (f : Nat → Nat) : Nat → Nat
  | 0 => 0
  | k + 1 => cnt f k + f k

theorem cnt_add (f : Nat → Nat) (m k : Nat) : cnt f (m + k) = cnt f m + cnt (fun i => f (m + i)) k := by
  induction k with
  | zero => simp [cnt]
  | succ k ih => rw [← Nat.add_assoc, cnt, ih, cnt]; omega
theorem cnt_congr (f g : Nat → Nat) (k : Nat) (h : ∀ i, i < k → f i = g i) : cnt f k = cnt g k := by
  induction k with
  | zero => rfl
  | succ k ih => rw [cnt, cnt, ih (fun i hi => h i (by omega)), h k (by omega)]
theorem cnt_le (f : Nat → Nat) (k : Nat) (h : ∀ i, f i ≤ 1) : cnt f k ≤ k := by
  induction k with
  | zero => simp [cnt]
  | succ k ih => rw [cnt]; have := h k; omega

/-- How many of the lowest k bits of x are 1. -/
def pcnt (x k : Nat) : Nat := cnt (fun i => (x.testBit i).toNat) k

theorem bit_split (a b i : Nat) (ha : a < 256) : (a + 256 * b).testBit i = if i < 8 then a.testBit i else b.testBit (i - 8) := by
  rw [Nat.add_comm]
  exact Nat.testBit_two_pow_mul_add b (i := 8) ha i

theorem and_split (a b m n : Nat) (ha : a < 256) (hm : m < 256) : (a + 256 * b) &&& (m + 256 * n) = (a &&& m) + 256 * (b &&& n) := by
  refine Nat.eq_of_testBit_eq fun i => ?_
  rw [Nat.testBit_and, bit_split a b i ha, bit_split m n i hm, bit_split _ _ i (Nat.lt_of_le_of_lt Nat.and_le_left ha)]
  split
  · rw [Nat.testBit_and]
  · rw [Nat.testBit_and]

theorem pcnt_split (a b k : Nat) (ha : a < 256) : pcnt (a + 256 * b) (8 + k) = pcnt a 8 + pcnt b k := by
  unfold pcnt
  rw [cnt_add]
  congr 1
  · exact cnt_congr _ _ _ fun i hi => by rw [bit_split a b i ha, if_pos hi]
  · exact cnt_congr _ _ _ fun i _ => by rw [bit_split a b _ ha, if_neg (by omega), show 8 + i - 8 = i by omega]

def val8 : List Nat → Nat
  | [] => 0
  | b :: bs => b + 256 * val8 bs

def s1 (b : Nat) : Nat := (b / 2 &&& 85) + (b &&& 85)
def s2 (b : Nat) : Nat := (b / 4 &&& 51) + (b &&& 51)
def s3 (b : Nat) : Nat := (b + b / 16) &&& 15

theorem s1_low : ∀ (b : Fin 256) (e : Fin 2), (b.val / 2 + 128 * e.val) &&& 85 = b.val / 2 &&& 85 := by decide +kernel
theorem s2_low : ∀ (b : Fin 256) (e : Fin 4), (b.val / 4 + 64 * e.val) &&& 51 = b.val / 4 &&& 51 := by decide +kernel
theorem s3_low : ∀ (b : Fin 69) (e : Fin 5), (b.val + b.val / 16 + 16 * e.val) &&& 15 = (b.val + b.val / 16) &&& 15 := by decide +kernel
theorem s1_lt : ∀ b : Fin 256, s1 b.val < 256 := by decide +kernel
theorem s2_ok : ∀ b : Fin 256, s2 (s1 b.val) < 69 ∧ s2 (s1 b.val) % 16 ≤ 4 := by decide +kernel
theorem s3_ok : ∀ b : Fin 256, s3 (s2 (s1 b.val)) = pcnt b.val 8 ∧ s3 (s2 (s1 b.val)) ≤ 8 := by decide +kernel

theorem step1 (bs : List Nat) (h : ∀ b ∈ bs, b < 256) : (val8 bs / 2 &&& val8 (bs.map fun _ => 85)) + (val8 bs &&& val8 (bs.map fun _ => 85)) = val8 (bs.map s1) := by
  induction bs with
  | nil => rfl
  | cons b bs ih =>
    have hb := h b (by simp)
    have ih' := ih fun x hx => h x (by simp [hx])
    simp only [val8, List.map_cons]
    generalize val8 (bs.map fun _ => 85) = M at *
    generalize val8 bs = B at *
    rw [show (b + 256 * B) / 2 = (b / 2 + 128 * (B % 2)) + 256 * (B / 2) by omega, and_split _ _ _ _ (by omega) (by omega), and_split _ _ _ _ hb (by omega), s1_low ⟨b, hb⟩ ⟨B % 2, by omega⟩, ← ih']
    simp only [s1]
    omega

theorem step2 (bs : List Nat) (h : ∀ b ∈ bs, b < 256) : (val8 bs / 4 &&& val8 (bs.map fun _ => 51)) + (val8 bs &&& val8 (bs.map fun _ => 51)) = val8 (bs.map s2) := by
  induction bs with
  | nil => rfl
  | cons b bs ih =>
    have hb := h b (by simp)
    have ih' := ih fun x hx => h x (by simp [hx])
    simp only [val8, List.map_cons]
    generalize val8 (bs.map fun _ => 51) = M at *
    generalize val8 bs = B at *
    rw [show (b + 256 * B) / 4 = (b / 4 + 64 * (B % 4)) + 256 * (B / 4) by omega, and_split _ _ _ _ (by omega) (by omega), and_split _ _ _ _ hb (by omega), s2_low ⟨b, hb⟩ ⟨B % 4, by omega⟩, ← ih']
    simp only [s2]
    omega

theorem low4 (bs : List Nat) (h : ∀ b ∈ bs, b < 69 ∧ b % 16 ≤ 4) : val8 bs % 16 ≤ 4 := by
  cases bs with
  | nil => simp [val8]
  | cons b bs => have := (h b (by simp)).2; simp only [val8]; omega

theorem step3 (bs : List Nat) (h : ∀ b ∈ bs, b < 69 ∧ b % 16 ≤ 4) : (val8 bs / 16 + val8 bs) &&& val8 (bs.map fun _ => 15) = val8 (bs.map s3) := by
  induction bs with
  | nil => rfl
  | cons b bs ih =>
    have hb := h b (by simp)
    have h' : ∀ b ∈ bs, b < 69 ∧ b % 16 ≤ 4 := fun x hx => h x (by simp [hx])
    have ih' := ih h'
    have hl := low4 bs h'
    simp only [val8, List.map_cons]
    generalize val8 (bs.map fun _ => 15) = M at *
    generalize val8 bs = B at *
    rw [show (b + 256 * B) / 16 + (b + 256 * B) = (b + b / 16 + 16 * (B % 16)) + 256 * (B / 16 + B) by omega, and_split _ _ _ _ (by omega) (by omega), s3_low ⟨b, hb.1⟩ ⟨B % 16, by omega⟩, ih']
    simp only [s3]

def bytesOf (x : Nat) : List Nat := [x % 256, x / 256 % 256, x / 65536 % 256, x / 16777216 % 256, x / 4294967296 % 256, x / 1099511627776 % 256, x / 281474976710656 % 256, x / 72057594037927936]
theorem bytesOf_val (x : Nat) : val8 (bytesOf x) = x := by simp only [bytesOf, val8]; omega
theorem bytesOf_lt (x : Nat) (h : x < 18446744073709551616) : ∀ b ∈ bytesOf x, b < 256 := by
  intro b hb
  simp only [bytesOf, List.mem_cons, List.not_mem_nil, or_false] at hb
  omega

theorem pop_list (bs : List Nat) (h : ∀ b ∈ bs, b < 256) : pcnt (val8 bs) (8 * bs.length) = ((bs.map fun b => s3 (s2 (s1 b)))).sum := by
  induction bs with
  | nil => rfl
  | cons b bs ih =>
    have hb := h b (by simp)
    rw [val8, List.length_cons, show 8 * (bs.length + 1) = 8 + 8 * bs.length by omega, pcnt_split _ _ _ hb, ih fun x hx => h x (by simp [hx])]
    simp only [List.map_cons, List.sum_cons]
    rw [(s3_ok ⟨b, hb⟩).1]

/-- The reckoning of OnesCount64, without a wrap. -/
def popN (x : Nat) : Nat :=
  let y1 := (x / 2 &&& 6148914691236517205) + (x &&& 6148914691236517205)
  let y2 := (y1 / 4 &&& 3689348814741910323) + (y1 &&& 3689348814741910323)
  let y3 := (y2 / 16 + y2) &&& 1085102592571150095
  let y4 := y3 + y3 / 256
  let y5 := y4 + y4 / 65536
  let y6 := y5 + y5 / 4294967296
  y6 % 128

theorem d8 (a b : Nat) (ha : a < 256) : (a + 256 * b) / 256 = b := by omega
theorem d16 (a b c : Nat) (ha : a < 256) (hb : b < 256) : (a + 256 * (b + 256 * c)) / 65536 = c := by omega
theorem d32 (a b c d e : Nat) (ha : a < 256) (hb : b < 256) (hc : c < 256) (hd : d < 256) : (a + 256 * (b + 256 * (c + 256 * (d + 256 * e)))) / 4294967296 = e := by omega

theorem fold8 (t0 t1 t2 t3 t4 t5 t6 t7 Y1 Y2 Y3 Y4 Y5 Y6 Y7 y : Nat) (h0 : t0 ≤ 8) (h1 : t1 ≤ 8) (h2 : t2 ≤ 8) (h3 : t3 ≤ 8) (h4 : t4 ≤ 8) (h5 : t5 ≤ 8) (h6 : t6 ≤ 8) (h7 : t7 ≤ 8)
    (hy : y = t0 + 256 * Y1) (e1 : Y1 = t1 + 256 * Y2) (e2 : Y2 = t2 + 256 * Y3) (e3 : Y3 = t3 + 256 * Y4) (e4 : Y4 = t4 + 256 * Y5) (e5 : Y5 = t5 + 256 * Y6) (e6 : Y6 = t6 + 256 * Y7) (e7 : Y7 = t7 + 256 * 0) :
    (y + y / 256 + (y + y / 256) / 65536 + (y + y / 256 + (y + y / 256) / 65536) / 4294967296) % 128 = t0 + (t1 + (t2 + (t3 + (t4 + (t5 + (t6 + (t7 + 0))))))) := by
  have b1 : t0 < 256 := by omega
  have b2 : t0 + t1 < 256 := by omega
  have b3 : t1 + t2 < 256 := by omega
  have b4 : t0 + t1 + t2 + t3 < 256 := by omega
  have b5 : t1 + t2 + t3 + t4 < 256 := by omega
  have b6 : t2 + t3 + t4 + t5 < 256 := by omega
  have b7 : t3 + t4 + t5 + t6 < 256 := by omega
  have b8 : t0 + (t1 + (t2 + (t3 + (t4 + (t5 + (t6 + (t7 + 0))))))) < 128 := by omega
  have a2 : y + Y1 = (t0 + t1) + 256 * ((t1 + t2) + 256 * (Y2 + Y3)) := by clear h0 h1 h2 h3 h4 h5 h6 h7 b1 b2 b3 b4 b5 b6 b7 b8 e4 e5 e6 e7; omega
  have a4 : y + Y1 + (Y2 + Y3) = (t0 + t1 + t2 + t3) + 256 * ((t1 + t2 + t3 + t4) + 256 * ((t2 + t3 + t4 + t5) + 256 * ((t3 + t4 + t5 + t6) + 256 * (Y4 + Y5 + Y6 + Y7)))) := by
    clear h0 h1 h2 h3 h4 h5 h6 h7 b1 b2 b3 b4 b5 b6 b7 b8 a2 e7
    have g3 : Y2 + Y3 = (t2 + t3) + 256 * (Y3 + Y4) := by omega
    have g4 : Y3 + Y4 = (t3 + t4) + 256 * (Y4 + Y5) := by omega
    have g5 : Y4 + Y5 = (t4 + t5) + 256 * (Y5 + Y6) := by omega
    have g6 : Y5 + Y6 = (t5 + t6) + 256 * (Y6 + Y7) := by omega
    have g1 : y + Y1 = (t0 + t1) + 256 * (Y1 + Y2) := by omega
    have g2 : Y1 + Y2 = (t1 + t2) + 256 * (Y2 + Y3) := by omega
    clear hy e1 e2 e3 e4 e5 e6
    omega
  have a6 : y + Y1 + (Y2 + Y3) + (Y4 + Y5 + Y6 + Y7) = (t0 + (t1 + (t2 + (t3 + (t4 + (t5 + (t6 + (t7 + 0)))))))) + 128 * (2 * (Y1 + Y2 + Y3 + Y4 + Y5 + Y6 + Y7)) := by
    clear h0 h1 h2 h3 h4 h5 h6 h7 b1 b2 b3 b4 b5 b6 b7 b8 a2 a4
    omega
  rw [show y / 256 = Y1 from hy ▸ d8 _ _ b1, show (y + Y1) / 65536 = Y2 + Y3 from a2 ▸ d16 _ _ _ b2 b3, show (y + Y1 + (Y2 + Y3)) / 4294967296 = Y4 + Y5 + Y6 + Y7 from a4 ▸ d32 _ _ _ _ _ b4 b5 b6 b7, a6, Nat.add_mul_mod_self_left, Nat.mod_eq_of_lt b8]

end Go.Proofs.Ythoiajpbpoglfaa

/- How OnesCount64's reckoning comes to the number of ones. -/
namespace Go.Proofs.Ythoiajpbpoglfaa
set_option linter.unusedVariables false
set_option linter.unusedSimpArgs false
open Go.RowKit

set_option maxHeartbeats 1000000 in
set_option maxRecDepth 100000 in
theorem pop_ok (x : Nat) (hx : x < 18446744073709551616) :
    ∃ y1 y2 y3 : Nat, y1 = (x / 2 &&& 6148914691236517205) + (x &&& 6148914691236517205) ∧ y1 < 18446744073709551616 ∧ y2 = (y1 / 4 &&& 3689348814741910323) + (y1 &&& 3689348814741910323) ∧ y2 < 18446744073709551616 ∧ y2 / 16 + y2 < 18446744073709551616 ∧
      y3 = ((y2 / 16 + y2) &&& 1085102592571150095) ∧ y3 ≤ 578721382704613384 ∧ (y3 + y3 / 256 + (y3 + y3 / 256) / 65536 + (y3 + y3 / 256 + (y3 + y3 / 256) / 65536) / 4294967296) % 128 = pcnt x 64 := by
  have hb := bytesOf_lt x hx
  have hv := bytesOf_val x
  have e1 := step1 (bytesOf x) hb
  have hb1 : ∀ b ∈ (bytesOf x).map s1, b < 256 := by
    intro b h
    obtain ⟨c, hc, rfl⟩ := List.mem_map.1 h
    exact s1_lt ⟨c, hb c hc⟩
  have e2 := step2 ((bytesOf x).map s1) hb1
  have hb2 : ∀ b ∈ ((bytesOf x).map s1).map s2, b < 69 ∧ b % 16 ≤ 4 := by
    intro b h
    obtain ⟨c, hc, rfl⟩ := List.mem_map.1 h
    obtain ⟨d, hd, rfl⟩ := List.mem_map.1 hc
    exact s2_ok ⟨d, hb d hd⟩
  have e3 := step3 (((bytesOf x).map s1).map s2) hb2
  have ep := pop_list (bytesOf x) hb
  have m1 : val8 ((bytesOf x).map fun _ => 85) = 6148914691236517205 := by simp [bytesOf, val8]
  have m2 : val8 (((bytesOf x).map s1).map fun _ => 51) = 3689348814741910323 := by simp [bytesOf, val8]
  have m3 : val8 ((((bytesOf x).map s1).map s2).map fun _ => 15) = 1085102592571150095 := by simp [bytesOf, val8]
  rw [m1, hv] at e1
  rw [m2] at e2
  rw [m3] at e3
  rw [hv] at ep
  have hl : (bytesOf x).length = 8 := rfl
  rw [hl] at ep
  have hb3 : ∀ b ∈ bytesOf x, s3 (s2 (s1 b)) ≤ 8 := fun b h => (s3_ok ⟨b, hb b h⟩).2
  have k1 : val8 ((bytesOf x).map s1) < 18446744073709551616 := by
    have := hb1
    simp only [bytesOf, List.map_cons, List.map_nil, val8, List.mem_cons, List.not_mem_nil, or_false, forall_eq_or_imp, forall_eq] at this ⊢
    omega
  have k2 : val8 (((bytesOf x).map s1).map s2) ≤ 68 * 72340172838076673 := by
    have := hb2
    simp only [bytesOf, List.map_cons, List.map_nil, val8, List.mem_cons, List.not_mem_nil, or_false, forall_eq_or_imp, forall_eq] at this ⊢
    omega
  have k3 : val8 ((((bytesOf x).map s1).map s2).map s3) ≤ 578721382704613384 ∧ (val8 ((((bytesOf x).map s1).map s2).map s3) + val8 ((((bytesOf x).map s1).map s2).map s3) / 256 + (val8 ((((bytesOf x).map s1).map s2).map s3) + val8 ((((bytesOf x).map s1).map s2).map s3) / 256) / 65536 + (val8 ((((bytesOf x).map s1).map s2).map s3) + val8 ((((bytesOf x).map s1).map s2).map s3) / 256 + (val8 ((((bytesOf x).map s1).map s2).map s3) + val8 ((((bytesOf x).map s1).map s2).map s3) / 256) / 65536) / 4294967296) % 128 = ((bytesOf x).map fun b => s3 (s2 (s1 b))).sum := by
    have h := hb3
    simp only [bytesOf, List.mem_cons, List.not_mem_nil, or_false, forall_eq_or_imp, forall_eq] at h
    obtain ⟨t0, t1, t2, t3, t4, t5, t6, t7⟩ := h
    simp only [bytesOf, List.map_cons, List.map_nil, List.sum_cons, List.sum_nil]
    generalize s3 (s2 (s1 (x % 256))) = q0 at *
    generalize s3 (s2 (s1 (x / 256 % 256))) = q1 at *
    generalize s3 (s2 (s1 (x / 65536 % 256))) = q2 at *
    generalize s3 (s2 (s1 (x / 16777216 % 256))) = q3 at *
    generalize s3 (s2 (s1 (x / 4294967296 % 256))) = q4 at *
    generalize s3 (s2 (s1 (x / 1099511627776 % 256))) = q5 at *
    generalize s3 (s2 (s1 (x / 281474976710656 % 256))) = q6 at *
    generalize s3 (s2 (s1 (x / 72057594037927936))) = q7 at *
    clear e1 e2 e3 ep hb hb1 hb2 hb3 m1 m2 m3 hv k1 k2 hl
    refine ⟨by simp only [val8]; omega, fold8 q0 q1 q2 q3 q4 q5 q6 q7 _ _ _ _ _ _ _ _ t0 t1 t2 t3 t4 t5 t6 t7 rfl rfl rfl rfl rfl rfl rfl rfl⟩
  refine ⟨val8 ((bytesOf x).map s1), val8 (((bytesOf x).map s1).map s2), val8 ((((bytesOf x).map s1).map s2).map s3), e1.symm, k1, e2.symm, by omega, by omega, e3.symm, k3.1, ?_⟩
  rw [k3.2, ep]

end Go.Proofs.Ythoiajpbpoglfaa

/- What math/bits.OnesCount64 and the two CountOnes answer. -/
namespace Go.Proofs.Ythoiajpbpoglfaa
set_option linter.unusedVariables false
set_option linter.unusedSimpArgs false
open Go.RowKit

def z1 (x : Int) : Int := IntKind.u64.wrap (bits BinOp.and IntKind.u64 (x / 2) 6148914691236517205 + bits BinOp.and IntKind.u64 x 6148914691236517205)
def z2 (x : Int) : Int := IntKind.u64.wrap (bits BinOp.and IntKind.u64 (x / 4) 3689348814741910323 + bits BinOp.and IntKind.u64 x 3689348814741910323)
def z3 (x : Int) : Int := bits BinOp.and IntKind.u64 (IntKind.u64.wrap (x / 16 + x)) 1085102592571150095
def z4 (x : Int) : Int := IntKind.u64.wrap (x + x / 256)
def z5 (x : Int) : Int := IntKind.u64.wrap (x + x / 65536)
def z6 (x : Int) : Int := IntKind.u64.wrap (x + x / 4294967296)

theorem and_i64 (a b : Nat) (ha : a < 9223372036854775808) (hb : b < 9223372036854775808) : bits BinOp.and IntKind.i64 (a : Int) (b : Int) = ((a &&& b : Nat) : Int) := by
  have hx : a &&& b < 2 ^ 63 := Nat.and_lt_two_pow _ (by omega)
  have h1 : (BitVec.ofInt 64 (a : Int)).toNat = a := by
    rw [BitVec.ofInt_natCast, BitVec.toNat_ofNat]; exact Nat.mod_eq_of_lt (by omega)
  have h2 : (BitVec.ofInt 64 (b : Int)).toNat = b := by
    rw [BitVec.ofInt_natCast, BitVec.toNat_ofNat]; exact Nat.mod_eq_of_lt (by omega)
  show IntKind.i64.wrap ((BitVec.ofInt 64 (a : Int) &&& BitVec.ofInt 64 (b : Int)).toNat : Int) = _
  rw [BitVec.toNat_and, h1, h2, IntKind.wrap_i64]
  omega

theorem wrapN (n : Nat) (h : n < 18446744073709551616) : IntKind.u64.wrap (n : Int) = (n : Int) := by rw [IntKind.wrap_u64]; omega

set_option maxHeartbeats 1000000 in
set_option maxRecDepth 100000 in
theorem ones64_int (x : Int) (w : World) (h0 : 0 ≤ x) (h1 : x ≤ 18446744073709551615) :
    Calls Try.prog 53 #[.int .u64 x] w fun e w' => e = .returned (.int .i64 (bits BinOp.and IntKind.i64 (wrap64 (z6 (z5 (z4 (z3 (z2 (z1 x))))))) 127)) ∧ w' = w := by
  go_enter Try.func53, Try.ntmps53
  go_wp2
  go_ret
  exact ⟨rfl, rfl⟩

set_option maxRecDepth 100000 in
theorem popZ (x : Nat) (hx : x < 18446744073709551616) : bits BinOp.and IntKind.i64 (wrap64 (z6 (z5 (z4 (z3 (z2 (z1 (x : Int)))))))) 127 = ((pcnt x 64 : Nat) : Int) := by
  obtain ⟨y1, y2, y3, e1, b1, e2, b2, b2', e3, b3, ep⟩ := pop_ok x hx
  have k1 : z1 (x : Int) = (y1 : Int) := by
    unfold z1
    rw [show ((x : Int) / 2) = ((x / 2 : Nat) : Int) by omega, show (6148914691236517205 : Int) = ((6148914691236517205 : Nat) : Int) by rfl, bits_and_u64_nat _ _ (by omega) (by decide), bits_and_u64_nat _ _ hx (by decide), ← Int.natCast_add, ← e1, wrapN _ b1]
  have k2 : z2 (y1 : Int) = (y2 : Int) := by
    unfold z2
    rw [show ((y1 : Int) / 4) = ((y1 / 4 : Nat) : Int) by omega, show (3689348814741910323 : Int) = ((3689348814741910323 : Nat) : Int) by rfl, bits_and_u64_nat _ _ (by omega) (by decide), bits_and_u64_nat _ _ b1 (by decide), ← Int.natCast_add, ← e2, wrapN _ b2]
  have k3 : z3 (y2 : Int) = (y3 : Int) := by
    unfold z3
    rw [show ((y2 : Int) / 16 + (y2 : Int)) = ((y2 / 16 + y2 : Nat) : Int) by omega, wrapN _ b2', show (1085102592571150095 : Int) = ((1085102592571150095 : Nat) : Int) by rfl, bits_and_u64_nat _ _ b2' (by decide), ← e3]
  rw [k1, k2, k3]
  clear k1 k2 k3 e1 e2 e3 b1 b2 b2'
  have k4 : z4 (y3 : Int) = ((y3 + y3 / 256 : Nat) : Int) := by
    unfold z4
    rw [show ((y3 : Int) + (y3 : Int) / 256) = ((y3 + y3 / 256 : Nat) : Int) by omega, wrapN _ (by omega)]
  rw [k4]
  have c4 : y3 + y3 / 256 ≤ 600000000000000000 := by omega
  generalize y3 + y3 / 256 = y4 at *
  clear k4 b3
  have k5 : z5 (y4 : Int) = ((y4 + y4 / 65536 : Nat) : Int) := by
    unfold z5
    rw [show ((y4 : Int) + (y4 : Int) / 65536) = ((y4 + y4 / 65536 : Nat) : Int) by omega, wrapN _ (by omega)]
  rw [k5]
  have c5 : y4 + y4 / 65536 ≤ 700000000000000000 := by omega
  generalize y4 + y4 / 65536 = y5 at *
  clear k5 c4
  have k6 : z6 (y5 : Int) = ((y5 + y5 / 4294967296 : Nat) : Int) := by
    unfold z6
    rw [show ((y5 : Int) + (y5 : Int) / 4294967296) = ((y5 + y5 / 4294967296 : Nat) : Int) by omega, wrapN _ (by omega)]
  rw [k6]
  have c6 : y5 + y5 / 4294967296 ≤ 800000000000000000 := by omega
  generalize y5 + y5 / 4294967296 = y6 at *
  rw [w64 _ (by omega), show (127 : Int) = ((127 : Nat) : Int) by rfl, and_i64 _ _ (by omega) (by decide), show (127 : Nat) = 2 ^ 7 - 1 by decide, Nat.and_two_pow_sub_one_eq_mod]
  rw [show (2 ^ 7 : Nat) = 128 by decide, ep]

theorem ones64_any (x : Nat) (w : World) (hx : x < 18446744073709551616) :
    Calls Try.prog 53 #[.int .u64 x] w fun e w' => e = .returned (.int .i64 ((pcnt x 64 : Nat) : Int)) ∧ w' = w := by
  have h := ones64_int x w (by omega) (by omega)
  rwa [popZ x hx] at h

theorem pcnt_le (x : Nat) : pcnt x 64 ≤ 64 := cnt_le _ _ fun i => by cases x.testBit i <;> decide

/-- How many of the first k bits of a row are 1. -/
def ones (xs : List Nat) (k : Nat) : Nat := cnt (fun i => (tb xs i).toNat) k
theorem ones_le (xs : List Nat) (k : Nat) : ones xs k ≤ k := cnt_le _ _ fun i => by cases tb xs i <;> decide

theorem ones_word (xs : List Nat) (k : Nat) (hk : k < xs.length) : ones xs (64 * (k + 1)) = ones xs (64 * k) + pcnt (xs.getD k 0) 64 := by
  unfold ones pcnt
  rw [show 64 * (k + 1) = 64 * k + 64 by omega, cnt_add]
  congr 1
  refine cnt_congr _ _ _ fun i hi => ?_
  unfold tb
  rw [show (64 * k + i) / 64 = k by omega, show (64 * k + i) % 64 = i by omega]

theorem ones_right {V : Nat} {xs : List Nat} (hok : rightB V xs = true) : ones xs (64 * xs.length) = ones xs V := by
  have h := right_W hok
  have e : 64 * xs.length = V + (64 * xs.length - V) := by omega
  unfold ones
  rw [e, cnt_add]
  have : cnt (fun i => (tb xs (V + i)).toNat) (64 * xs.length - V) = 0 := by
    have hz : ∀ k, cnt (fun i => (tb xs (V + i)).toNat) k = 0 := by
      intro k
      induction k with
      | zero => rfl
      | succ k ih => rw [cnt, ih, tb_out hok (V + k) (by omega)]; rfl
    exact hz _
  omega

def onesI (W : Int) (xs : List Nat) : Int := if rightB W xs = true then ((ones xs W.toNat : Nat) : Int) else -1


theorem implOnes_any (W : Int) (a : Option Addr) (c : Nat) (xs : List Nat) (w : World) (hr : Rd w a xs) :
    Calls Try.prog 20 #[.agg #[.int .i64 W, .slice a xs.length c]] w fun e w' => e = .returned (.int .i64 (onesI W xs)) ∧ Below w.heap.size w w' := by
  have hr' := hr.later ((Below.refl _ w).alloc (Nat.le_refl _) (Obj.cells #[Value.int IntKind.i64 W, Value.slice a xs.length c] 48))
  by_cases hok : rightB W xs = true
  · rw [onesI, if_pos hok]
    obtain ⟨hW1, hW2, hWl⟩ := right_W hok
    obtain ⟨V, rfl⟩ := Int.eq_ofNat_of_zero_le (show 0 ≤ W by omega)
    rw [Int.toNat_natCast]
    have hxx := hr.2.1
    have hl64 : xs.length ≤ 64 := by omega
    have HE : Hid (ones xs (64 * xs.length) = ones xs V) := ones_right hok
    clear hWl
    go_enter Try.func20, Try.ntmps20
    go_wp2_with fail
    refine (implOk_any _ _ _ _ _ hr').mono ?_
    rintro e w1 ⟨rfl, hb1⟩
    have s1 := (St.start w _).next hb1
    obtain ⟨c0, c1⟩ := s1.two
    have r1 := s1.rd hr
    clear hb1 hr'
    go_wp2_with fail
    go_loop [3, 12] (fun q i => ∃ k : Nat, k ≤ xs.length ∧ i = .int .i64 k ∧ q = .int .i64 ((ones xs (64 * k) : Nat) : Int)) (fun _ i => xs.length - (intOf i).toNat)
    case atStart => exact ⟨0, Nat.zero_le _, rfl, rfl⟩
    case round =>
      obtain ⟨k, hk, rfl, rfl⟩ := hrel
      have hol := ones_le xs (64 * k)
      by_cases hlt : k < xs.length
      · obtain ⟨-, -, hn | ⟨b, o, rfl, hc⟩⟩ := r1
        · subst hn; simp at hlt
        have hcell := hc k hlt
        have hy := getD_lt hxx k
        have hpl := pcnt_le (xs.getD k 0)
        have HS : Hid (ones xs (64 * (k + 1)) = ones xs (64 * k) + pcnt (xs.getD k 0) 64) := ones_word xs k hlt
        have hki : (k : Int) < (xs.length : Int) := by omega
        clear hc
        generalize xs.getD k 0 = y at *
        generalize ones xs (64 * k) = z at *
        go_wp2_with (go_at_call 53; refine (ones64_any _ _ hy).mono ?_; rintro e w' ⟨rfl, rfl⟩)
        go_round
        case rel => exact ⟨k + 1, by omega, by go_num, by rw [HS.out]; go_num⟩
        case measure => simp [intOf]; omega
      · have e : k = xs.length := by omega
        subst e
        go_wp2
        go_ret
        exact ⟨ret_int (by rw [HE.out]), s1.below⟩
  · have hf : rightB W xs = false := by simpa using hok
    rw [onesI, if_neg hok]
    go_enter Try.func20, Try.ntmps20
    go_wp2_with fail
    refine (implOk_any _ _ _ _ _ hr').mono ?_
    rintro e w1 ⟨rfl, hb1⟩
    have s1 := (St.start w _).next hb1
    go_wp2
    go_ret
    exact ⟨rfl, s1.below⟩

end Go.Proofs.Ythoiajpbpoglfaa
