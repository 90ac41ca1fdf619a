/- Forms held against one another. -/
import Derived.Test.YtckidgpopbpagaaGreatDoorZGAC
import Derived.Test.YtckidgpopbpagaaGreatDoorZGAF
import Derived.Test.YtckidgpopbpagaaGreatDoorLSB
import Derived.Handy
namespace Go.Proofs.YtckidgpopbpagaaGreatDoor
set_option linter.unusedVariables false
set_option linter.unusedSimpArgs false
open Go.RowKit

set_option maxHeartbeats 1000000 in
/-- Whether two rows of words are the same. -/
theorem equalU_any (a b : Option Addr) (c d n m : Nat) (xs ys : List Nat) (w : World) (hr : Rd w a xs) (hn : xs.length = n) (hs : Rd w b ys) (hm : ys.length = m) :
    Calls Tryz.prog 46 #[.slice a n c, .slice b m d] w fun e w' => e = .returned (.bool (decide (xs = ys))) ∧ Below w.heap.size w w' := by
  have HN := kide hn
  have HM := kide hm
  have HL : Hid (n ≤ 1048576) := by show _ ≤ _; rw [← hn]; exact hr.1
  clear hn hm
  by_cases hnm : n = m
  · subst hnm
    have hne : ((n : Int) != (n : Int)) = false := by simp
    obtain ⟨V, hV⟩ : ∃ V, decide (xs = ys) = V := ⟨_, rfl⟩
    rw [hV]
    have HV := kide hV
    clear hV
    go_enter Tryz.func46, Tryz.ntmps46
    go_wp2_with fail
    clear hne
    go_loopw [13] (fun i wr => ∃ k : Nat, k ≤ n ∧ i = .int .i64 (k : Int) ∧ xs.take k = ys.take k ∧ Below w.heap.size w wr) (fun i _ => n - (intOf i).toNat)
    case atStart => exact ⟨0, Nat.zero_le _, rfl, rfl, Below.refl _ _⟩
    case round =>
      obtain ⟨k, hk, rfl, ht, hbel⟩ := hrel
      have HT := kide ht
      have HB := kide hbel
      by_cases hlt : k < n
      · obtain ⟨-, -, h | ⟨b1, o1, rfl, hc1⟩⟩ := hr.later hbel
        · have := HN.out; rw [h] at this; simp at this; omega
        obtain ⟨-, -, h | ⟨b2, o2, rfl, hc2⟩⟩ := hs.later hbel
        · have := HM.out; rw [h] at this; simp at this; omega
        obtain ⟨x, gx⟩ : ∃ y, xs[k]? = some y := ⟨xs[k]'(by rw [HN.out]; exact hlt), List.getElem?_eq_getElem _⟩
        obtain ⟨y, gy⟩ : ∃ y, ys[k]? = some y := ⟨ys[k]'(by rw [HM.out]; exact hlt), List.getElem?_eq_getElem _⟩
        have p0 := hc1 k (by rw [HN.out]; exact hlt)
        have q0 := hc2 k (by rw [HM.out]; exact hlt)
        rw [show xs.getD k 0 = x by rw [List.getD_eq_getElem?_getD, gx]; rfl] at p0
        rw [show ys.getD k 0 = y by rw [List.getD_eq_getElem?_getD, gy]; rfl] at q0
        have HGX := kide gx
        have HGY := kide gy
        have i0 : (k : Int) < (n : Int) := by omega
        have HKL := kide hlt
        clear hc1 hc2 gx gy hbel ht hk hlt
        by_cases hxy : x = y
        · have e1 : ((x : Int) != (y : Int)) = false := by simp [hxy]
          have HX := kide hxy
          clear hxy
          go_wp2_with fail
          go_quiet (fail)
          go_wp2_with fail
          have t9 : wrap64 ((k : Int) + 1) = ((k + 1 : Nat) : Int) := by
            have := HKL.out
            have := HL.out
            unfold wrap64
            omega
          rw [t9]
          clear t9
          go_roundw
          case rel => exact ⟨k + 1, HKL.out, rfl, by rw [List.take_add_one, List.take_add_one, HT.out, HGX.out, HGY.out, HX.out], below_drewN HB.out _⟩
          case measure => have := HKL.out; simp only [intOf, Int.toNat_natCast]; omega
        · have e1 : ((x : Int) != (y : Int)) = true := by simp; omega
          have HF : Hid (V = false) := by
            show _ = _
            rw [← HV.out]
            exact decide_eq_false (fun e => by
              have h1 := HGX.out
              rw [e, HGY.out] at h1
              cases h1
              exact hxy rfl)
          clear hxy
          go_wp2_with fail
          go_quiet (fail)
          go_wp2_with fail
          go_ret
          exact ⟨by rw [HF.out]; rfl, below_drewN HB.out _⟩
      · have i0 : ¬ (k : Int) < (n : Int) := by omega
        have HF : Hid (V = true) := by
          show _ = _
          rw [← HV.out]
          refine decide_eq_true ?_
          have h1 := ht
          rw [List.take_of_length_le (by rw [HN.out]; omega), List.take_of_length_le (by rw [HM.out]; omega)] at h1
          exact h1
        clear hbel ht hk hlt
        go_wp2_with fail
        go_ret
        exact ⟨by rw [HF.out]; rfl, HB.out⟩
  · have hne : ((n : Int) != (m : Int)) = true := by simp; omega
    have HF : Hid (decide (xs = ys) = false) := decide_eq_false (fun e => hnm (by rw [← HN.out, ← HM.out, e]))
    rw [HF.out]
    clear hnm
    go_enter Tryz.func46, Tryz.ntmps46
    go_wp2_with fail
    go_ret
    exact ⟨rfl, Below.refl _ _⟩


/-- What sameSeg looks at. -/
def sgEq (x y : Sc) : Bool := decide (x.v = y.v) && decide (x.lo = y.lo) && decide (x.wd = y.wd) && decide (x.ws = y.ws)

set_option maxHeartbeats 1000000 in
set_option maxRecDepth 100000 in
theorem sameSeg_any (x y : Sc) (a b : Option Addr) (c d : Nat) (w : World) (hr : Rd w a x.ws) (hs : Rd w b y.ws) :
    Calls Tryz.prog 32 #[.agg #[.int .i64 x.v, .int .i64 x.lo, .int .i64 x.wd, .int .i64 x.bw, .slice a x.ws.length c], .agg #[.int .i64 y.v, .int .i64 y.lo, .int .i64 y.wd, .int .i64 y.bw, .slice b y.ws.length d]] w fun e w' => e = .returned (.bool (sgEq x y)) ∧ Below w.heap.size w w' := by
  obtain ⟨v, lo, wd, bw, ws⟩ := x
  obtain ⟨v', lo', wd', bw', ws'⟩ := y
  simp only [] at hr hs ⊢
  obtain ⟨Z, hZ⟩ : ∃ Z, sgEq ⟨v, lo, wd, bw, ws⟩ ⟨v', lo', wd', bw', ws'⟩ = Z := ⟨_, rfl⟩
  rw [hZ]
  unfold sgEq at hZ
  simp only [] at hZ
  have s0 := Bb.start w (.cells #[Value.int .i64 v, Value.int .i64 lo, Value.int .i64 wd, Value.int .i64 bw, Value.slice a ws.length c] 67) (.cells #[Value.int .i64 v', Value.int .i64 lo', Value.int .i64 wd', Value.int .i64 bw', Value.slice b ws'.length d] 67)
  have HEQ := kide (fun u (hu : Below w.heap.size w u) => equalU_any a b c d ws.length ws'.length ws ws' u (hr.later hu) rfl (hs.later hu) rfl)
  generalize ws.length = n at *
  generalize ws'.length = m at *
  generalize hQ : decide (ws = ws') = Q at *
  have HZ := kide hZ
  clear hr hs hQ hZ
  have B0 := kide s0.below
  by_cases h1 : v = v'
  · subst h1
    by_cases h2 : lo = lo'
    · subst h2
      by_cases h3 : wd = wd'
      · subst h3
        have HZ2 : Hid (Q = Z) := by show _ = _; rw [← HZ.out]; simp
        clear HZ
        go_enter Tryz.func32, Tryz.ntmps32
        go_wp2_with fail
        refine Calls.mono (HEQ.out _ B0.out) ?_
        rintro e w2 ⟨rfl, hb2⟩
        have B2 := kide (B0.out.trans (hb2.mono B0.out.size))
        clear hb2
        go_wp2_with fail
        go_ret
        exact ⟨by rw [HZ2.out]; rfl, B2.out⟩
      · have HZ2 : Hid (Z = false) := by show _ = _; rw [← HZ.out]; simp [h3]
        have e3 : (wd == wd') = false := beq_eq_false_iff_ne.2 h3
        clear HZ h3
        go_enter Tryz.func32, Tryz.ntmps32
        go_wp2_with fail
        go_ret
        exact ⟨by rw [HZ2.out]; rfl, B0.out⟩
    · have HZ2 : Hid (Z = false) := by show _ = _; rw [← HZ.out]; simp [h2]
      have e3 : (lo == lo') = false := beq_eq_false_iff_ne.2 h2
      clear HZ h2
      go_enter Tryz.func32, Tryz.ntmps32
      go_wp2_with fail
      go_ret
      exact ⟨by rw [HZ2.out]; rfl, B0.out⟩
  · have HZ2 : Hid (Z = false) := by show _ = _; rw [← HZ.out]; simp [h1]
    have e3 : (v == v') = false := beq_eq_false_iff_ne.2 h1
    clear HZ h1
    go_enter Tryz.func32, Tryz.ntmps32
    go_wp2_with fail
    go_ret
    exact ⟨by rw [HZ2.out]; rfl, B0.out⟩

abbrev fnSame : Value := .func (.func 32) #[] #[]
set_option maxHeartbeats 1000000 in
set_option maxRecDepth 100000 in
theorem equalFS_any (a b : Option Addr) (c d n m : Nat) (xs ys : List Sg) (w : World) (hr : RdS w a xs) (hn : xs.length = n) (hs : RdS w b ys) (hm : ys.length = m) :
    Calls Tryz.prog 31 #[.slice a n c, .slice b m d, fnSame] w fun e w' => e = .returned (.bool (decide (n = m) && (xs.zip ys).all fun p => sgEq p.1.ct p.2.ct)) ∧ Below w.heap.size w w' := by
  have HN := kide hn
  have HM := kide hm
  have HL : Hid (n ≤ 1048576) := by show _ ≤ _; rw [← hn]; exact hr.1
  have HR := kide hr
  have HS := kide hs
  clear hn hm hr hs
  by_cases hnm : n = m
  · subst hnm
    have hne : ((n : Int) != (n : Int)) = false := by simp
    obtain ⟨V, hV⟩ : ∃ V, (decide (n = n) && (xs.zip ys).all fun p => sgEq p.1.ct p.2.ct) = V := ⟨_, rfl⟩
    rw [hV]
    simp only [decide_true, Bool.true_and] at hV
    have HV := kide hV
    clear hV
    go_enter Tryz.func31, Tryz.ntmps31
    go_wp2_with fail
    clear hne
    go_loopw [17] (fun i wr => ∃ k : Nat, k ≤ n ∧ i = .int .i64 (k : Int) ∧ ((xs.zip ys).take k).all (fun p => sgEq p.1.ct p.2.ct) = true ∧ Below w.heap.size w wr) (fun i _ => n - (intOf i).toNat)
    case atStart => exact ⟨0, Nat.zero_le _, rfl, rfl, Below.refl _ _⟩
    case round =>
      obtain ⟨k, hk, rfl, ht, hbel⟩ := hrel
      have HT := kide ht
      have HB := kide hbel
      by_cases hlt : k < n
      · obtain ⟨-, h | ⟨b1, o1, rfl, hc1⟩⟩ := HR.out.later hbel
        · have := HN.out; rw [h] at this; simp at this; omega
        obtain ⟨-, h | ⟨b2, o2, rfl, hc2⟩⟩ := HS.out.later hbel
        · have := HM.out; rw [h] at this; simp at this; omega
        obtain ⟨x, gx⟩ : ∃ y, xs[k]? = some y := ⟨xs[k]'(by rw [HN.out]; exact hlt), List.getElem?_eq_getElem _⟩
        obtain ⟨y, gy⟩ : ∃ y, ys[k]? = some y := ⟨ys[k]'(by rw [HM.out]; exact hlt), List.getElem?_eq_getElem _⟩
        obtain ⟨⟨p0, p1, p2, p3, p4⟩, pr, -⟩ := hc1 k x gx
        obtain ⟨⟨q0, q1, q2, q3, q4⟩, qr, -⟩ := hc2 k y gy
        simp only [Sg.hd] at p0 p1 p2 p3 p4 q0 q1 q2 q3 q4
        have gz : (xs.zip ys)[k]? = some (x, y) := by rw [List.getElem?_zip_eq_some]; exact ⟨gx, gy⟩
        have HGZ := kide gz
        have HSA := kide (fun u (hu : Below wr.heap.size wr u) => sameSeg_any x.ct y.ct x.a y.a x.c y.c u (pr.later hu) (qr.later hu))
        obtain ⟨⟨v, lo, wd, bw, ws⟩, xa, xc⟩ := x
        obtain ⟨⟨v', lo', wd', bw', ws'⟩, ya, yc⟩ := y
        simp only [] at p0 p1 p2 p3 p4 q0 q1 q2 q3 q4 HSA
        generalize ws.length = n1 at *
        generalize ws'.length = n2 at *
        have i0 : (k : Int) < (n : Int) := by omega
        have HKL := kide hlt
        have l1 := block_lt_of_cell p0
        have l2 := block_lt_of_cell q0
        clear hc1 hc2 gx gy hbel ht hk hlt pr qr gz
        obtain ⟨ZQ, hZQ⟩ : ∃ z, sgEq ⟨v, lo, wd, bw, ws⟩ ⟨v', lo', wd', bw', ws'⟩ = z := ⟨_, rfl⟩
        rw [hZQ] at HSA
        have HZQ := kide hZQ
        have BB : Hid (Below wr.heap.size wr ((wr.alloc (Obj.cells #[Value.int .i64 v, Value.int .i64 lo, Value.int .i64 wd, Value.int .i64 bw, Value.slice xa n1 xc] 67)).alloc (Obj.cells #[Value.int .i64 v', Value.int .i64 lo', Value.int .i64 wd', Value.int .i64 bw', Value.slice ya n2 yc] 67))) := ((Below.refl _ _).alloc (Nat.le_refl _) _).alloc (by simp) _
        clear hZQ
        go_wp2_with fail
        refine Calls.mono (HSA.out _ BB.out) ?_
        rintro e w2 ⟨rfl, hb2⟩
        have B2 := kide (HB.out.trans ((BB.out.trans (hb2.mono BB.out.size)).mono HB.out.size))
        clear hb2
        cases ZQ with
        | true =>
          have t9 : wrap64 ((k : Int) + 1) = ((k + 1 : Nat) : Int) := by
            have := HKL.out
            have := HL.out
            unfold wrap64
            omega
          go_wp2_with fail
          rw [t9]
          clear t9
          go_roundw
          case rel => exact ⟨k + 1, HKL.out, rfl, by rw [List.take_add_one, HGZ.out, Option.toList_some, List.all_append, HT.out]; simpa using HZQ.out, B2.out⟩
          case measure => have := HKL.out; simp only [intOf, Int.toNat_natCast]; omega
        | false =>
          have HF : Hid (V = false) := by
            show _ = _
            rw [← HV.out]
            refine Bool.eq_false_iff.2 fun h9 => ?_
            have h8 := List.all_eq_true.1 h9 _ (List.mem_of_getElem? HGZ.out)
            simp only [] at h8
            rw [HZQ.out] at h8
            cases h8
          go_wp2_with fail
          go_ret
          exact ⟨by rw [HF.out]; rfl, B2.out⟩
      · have i0 : ¬ (k : Int) < (n : Int) := by omega
        have HF : Hid (V = true) := by
          show _ = _
          rw [← HV.out]
          have h1 := ht
          rw [List.take_of_length_le (by rw [List.length_zip, HN.out, HM.out]; omega)] at h1
          exact h1
        clear hbel ht hk hlt
        go_wp2_with fail
        go_ret
        exact ⟨by rw [HF.out]; rfl, HB.out⟩
  · have hne : ((n : Int) != (m : Int)) = true := by simp; omega
    have HF : Hid ((decide (n = m) && (xs.zip ys).all fun p => sgEq p.1.ct p.2.ct) = false) := by show _ = _; simp [hnm]
    rw [HF.out]
    clear hnm
    go_enter Tryz.func31, Tryz.ntmps31
    go_wp2_with fail
    go_ret
    exact ⟨rfl, Below.refl _ _⟩
/-- Whether two segments are the same; two forms. -/
def scEq (x y : Sc) : Bool := decide (x.v = y.v) && decide (x.lo = y.lo) && decide (x.wd = y.wd) && (decide (x.bw = y.bw) && decide (x.ws = y.ws))
def fmEq (xs ys : List Sc) : Bool := decide (xs.length = ys.length) && (xs.zip ys).all fun p => scEq p.1 p.2
/-- Of right segments: what sameSeg looks at is all there is. -/
theorem sgEq_ok {x y : Sc} (hx : okS x) (hy : okS y) : sgEq x y = scEq x y := by
  obtain ⟨v, lo, wd, bw, ws⟩ := x
  obtain ⟨v', lo', wd', bw', ws'⟩ := y
  unfold sgEq scEq
  simp only []
  by_cases h : v = v' ∧ wd = wd'
  · obtain ⟨rfl, rfl⟩ := h
    have hb : bw = bw' := by
      rcases hx.2.2.2 with ⟨h1, -, h2, -⟩ | ⟨h1, h2, -⟩ <;> rcases hy.2.2.2 with ⟨k1, -, k2, -⟩ | ⟨k1, k2, -⟩ <;> simp only [] at h1 h2 k1 k2 <;> omega
    subst hb
    simp
  · by_cases h1 : v = v'
    · have h2 : ¬ wd = wd' := fun e => h ⟨h1, e⟩
      simp [h2]
    · simp [h1]
theorem all_zip_eq : ∀ (xs ys : List Sg), (∀ x ∈ xs, okS x.ct) → (∀ y ∈ ys, okS y.ct) → (xs.zip ys).all (fun p => sgEq p.1.ct p.2.ct) = ((xs.map Sg.ct).zip (ys.map Sg.ct)).all (fun p => scEq p.1 p.2)
  | [], _, _, _ => by simp
  | _ :: _, [], _, _ => by simp
  | x :: xs, y :: ys, hx, hy => by
    have ih := all_zip_eq xs ys (fun z hz => hx z (List.mem_cons_of_mem _ hz)) (fun z hz => hy z (List.mem_cons_of_mem _ hz))
    rw [List.map_cons, List.map_cons, List.zip_cons_cons, List.zip_cons_cons, List.all_cons, List.all_cons, ih, sgEq_ok (hx x (by simp)) (hy y (by simp))]

set_option maxRecDepth 100000 in
/-- Whether two right forms are the same. -/
theorem sameForm_any (a b : Option Addr) (c d n m : Nat) (xs ys : List Sg) (w : World) (hr : RdS w a xs) (hn : xs.length = n) (hs : RdS w b ys) (hm : ys.length = m) (hx : ∀ x ∈ xs, okS x.ct) (hy : ∀ y ∈ ys, okS y.ct) :
    Calls Tryz.prog 19 #[.slice a n c, .slice b m d] w fun e w' => e = .returned (.bool (fmEq (xs.map Sg.ct) (ys.map Sg.ct))) ∧ Below w.heap.size w w' := by
  have hQ : (decide (n = m) && (xs.zip ys).all fun p => sgEq p.1.ct p.2.ct) = fmEq (xs.map Sg.ct) (ys.map Sg.ct) := by
    unfold fmEq
    rw [all_zip_eq xs ys hx hy, List.length_map, List.length_map, hn, hm]
  have HE := kide (equalFS_any a b c d n m xs ys w hr hn hs hm)
  rw [hQ] at HE
  generalize fmEq (xs.map Sg.ct) (ys.map Sg.ct) = Z at *
  clear hQ hr hs hx hy hn hm
  go_enter Tryz.func19, Tryz.ntmps19
  go_wp2_with fail
  refine Calls.mono HE.out ?_
  rintro e w2 ⟨rfl, hb2⟩
  go_wp2_with fail
  go_ret
  exact ⟨rfl, hb2⟩

set_option maxHeartbeats 2000000 in
set_option maxRecDepth 100000 in
/-- .. on the given side. -/
theorem l14Same_any (a b : Option Addr) (c d n m : Nat) (xs ys : List Sg) (w : World) (hr : RdS w a xs) (hn : xs.length = n) (hs : RdS w b ys) (hm : ys.length = m) :
    Calls Tryz.prog 15 #[.slice a n c, .slice b m d] w fun e w' => e = .returned (.bool (fmEq (xs.map Sg.ct) (ys.map Sg.ct))) ∧ Below w.heap.size w w' := by
  have HN := kide hn
  have HM := kide hm
  have HL : Hid (n ≤ 1048576) := by show _ ≤ _; rw [← hn]; exact hr.1
  have HR := kide hr
  have HS := kide hs
  obtain ⟨V, hV⟩ : ∃ V, fmEq (xs.map Sg.ct) (ys.map Sg.ct) = V := ⟨_, rfl⟩
  rw [hV]
  unfold fmEq at hV
  rw [List.length_map, List.length_map, hn, hm] at hV
  clear hn hm hr hs
  by_cases hnm : n = m
  · subst hnm
    have hne : ((n : Int) != (n : Int)) = false := by simp
    simp only [decide_true, Bool.true_and] at hV
    have HV := kide hV
    clear hV
    go_enter Tryz.func15, Tryz.ntmps15
    go_wp2_with fail
    clear hne
    go_loopw [5] (fun i wr => ∃ k : Nat, k ≤ n ∧ i = .int .i64 (k : Int) ∧ (((xs.map Sg.ct).zip (ys.map Sg.ct)).take k).all (fun p => scEq p.1 p.2) = true ∧ Below w.heap.size w wr) (fun i _ => n - (intOf i).toNat)
    case atStart => exact ⟨0, Nat.zero_le _, rfl, rfl, Below.refl _ _⟩
    case round =>
      obtain ⟨k, hk, rfl, ht, hbel⟩ := hrel
      have HT := kide ht
      have HB := kide hbel
      by_cases hlt : k < n
      · obtain ⟨-, h | ⟨b1, o1, rfl, hc1⟩⟩ := HR.out.later hbel
        · have := HN.out; rw [h] at this; simp at this; omega
        obtain ⟨-, h | ⟨b2, o2, rfl, hc2⟩⟩ := HS.out.later hbel
        · have := HM.out; rw [h] at this; simp at this; omega
        obtain ⟨x, gx⟩ : ∃ y, xs[k]? = some y := ⟨xs[k]'(by rw [HN.out]; exact hlt), List.getElem?_eq_getElem _⟩
        obtain ⟨y, gy⟩ : ∃ y, ys[k]? = some y := ⟨ys[k]'(by rw [HM.out]; exact hlt), List.getElem?_eq_getElem _⟩
        obtain ⟨⟨p0, p1, p2, p3, p4⟩, pr, -⟩ := hc1 k x gx
        obtain ⟨⟨q0, q1, q2, q3, q4⟩, qr, -⟩ := hc2 k y gy
        simp only [Sg.hd] at p0 p1 p2 p3 p4 q0 q1 q2 q3 q4
        have gz : ((xs.map Sg.ct).zip (ys.map Sg.ct))[k]? = some (x.ct, y.ct) := by rw [List.getElem?_zip_eq_some, List.getElem?_map, List.getElem?_map, gx, gy]; exact ⟨rfl, rfl⟩
        have HGZ := kide gz
        have HSA := kide (fun u (hu : Below wr.heap.size wr u) => l3Same_any x.ct.bw x.a x.c x.ct.ws y.ct.bw y.a y.c y.ct.ws u (pr.later hu) (qr.later hu))
        obtain ⟨⟨v, lo, wd, bw, ws⟩, xa, xc⟩ := x
        obtain ⟨⟨v', lo', wd', bw', ws'⟩, ya, yc⟩ := y
        simp only [] at p0 p1 p2 p3 p4 q0 q1 q2 q3 q4 HSA
        generalize ws.length = n1 at *
        generalize ws'.length = n2 at *
        have i0 : (k : Int) < (n : Int) := by omega
        have HKL := kide hlt
        have l1 := block_lt_of_cell p0
        have l2 := block_lt_of_cell q0
        have t9 : IntKind.i64.wrap ((k : Int) + 1) = (k : Int) + 1 := by rw [IntKind.wrap_i64]; have := HL.out; omega
        obtain ⟨ZQ, hZQ⟩ : ∃ z, scEq ⟨v, lo, wd, bw, ws⟩ ⟨v', lo', wd', bw', ws'⟩ = z := ⟨_, rfl⟩
        have HZQ := kide hZQ
        have NO : Hid (ZQ = false → V = false) := fun e => by
          rw [← HV.out]
          refine Bool.eq_false_iff.2 fun h9 => ?_
          have h8 := List.all_eq_true.1 h9 _ (List.mem_of_getElem? HGZ.out)
          simp only [] at h8
          rw [hZQ, e] at h8
          cases h8
        unfold scEq at hZQ
        simp only [] at hZQ
        generalize hQ : (decide (bw = bw') && decide (ws = ws')) = Q at *
        have HZ2 := kide hZQ
        clear hc1 hc2 gx gy hbel ht hk hlt pr qr gz hZQ hQ
        by_cases h1 : v = v'
        · by_cases h2 : lo = lo'
          · by_cases h3 : wd = wd'
            · have e1 : (v != v') = false := by simp [h1]
              have e2 : (lo != lo') = false := by simp [h2]
              have e3 : (wd != wd') = false := by simp [h3]
              have HQ : Hid (Q = ZQ) := by show _ = _; rw [← HZ2.out, decide_eq_true h1, decide_eq_true h2, decide_eq_true h3]; simp
              clear h1 h2 h3
              go_wp2_with fail
              refine wp_region_x (SA := fun _ => False) (SB := fun uu => Below wr.heap.size wr uu) (k := 999) (by kernel_rfl) ?_
              have hm0 : Hid (Below wr.heap.size wr wr.drew) := (Below.refl _ _).drew
              generalize wr.drew = m0 at *
              try go_simp
              refine wpAnyX_both (T := fun uu => Below wr.heap.size wr uu) (i := 0) (v := Value.slice (some ⟨b1, o1, none⟩) n c) rfl (by kernel_rfl) (by kernel_rfl) (by kernel_rfl) (fun _ _ _ h => by first | exact h | exact h.elim) (by decide) (fun _ h => h.elim) (fun _ h => h) (Sx.behind (by kernel_rfl) hm0.out) (Or.inl ⟨by rfl, fun uu hu => by go_simp⟩) ?_
              try go_simp
              refine wpAnyX_both (T := fun uu => Below wr.heap.size wr uu) (i := 1) (v := Value.int .i64 (k : Int)) rfl (by kernel_rfl) (by kernel_rfl) (by kernel_rfl) (fun _ _ _ h => by first | exact h | exact h.elim) (by decide) (fun _ h => h.elim) (fun _ h => h) (Sx.behind (by kernel_rfl) hm0.out) (Or.inl ⟨by rfl, fun uu hu => by go_simp⟩) ?_
              try go_simp
              refine wpAnyX_both (T := fun uu => Below wr.heap.size wr uu) (i := 2) (v := Value.pointer (some ⟨b1, o1 + k * 5, none⟩)) rfl (by kernel_rfl) (by kernel_rfl) (by kernel_rfl) (fun _ _ _ h => by first | exact h | exact h.elim) (by decide) (fun _ h => h.elim) (fun _ h => h) (Sx.behind (by kernel_rfl) hm0.out) (Or.inl ⟨by rfl, fun uu hu => by go_simp⟩) ?_
              try go_simp
              refine wpAnyX_both (T := fun uu => Below wr.heap.size wr uu) (i := 3) (v := Value.pointer (some ⟨b1, o1 + k * 5, none⟩)) rfl (by kernel_rfl) (by kernel_rfl) (by kernel_rfl) (fun _ _ _ h => by first | exact h | exact h.elim) (by decide) (fun _ h => h.elim) (fun _ h => h) (Sx.behind (by kernel_rfl) hm0.out) (Or.inl ⟨by rfl, fun uu hu => by go_simp⟩) ?_
              try go_simp
              refine wpAnyX_both (T := fun uu => Below wr.heap.size wr uu) (i := 4) (v := Value.int .i64 v) rfl (by kernel_rfl) (by kernel_rfl) (by kernel_rfl) (fun _ _ _ h => by first | exact h | exact h.elim) (by decide) (fun _ h => h.elim) (fun _ h => h) (Sx.behind (by kernel_rfl) hm0.out) (Or.inl ⟨by rfl, fun uu hu => by have e0 := (kcell hu b1 (o1 + k * 5) l1).trans p0; go_simp⟩) ?_
              try go_simp
              refine wpAnyX_both (T := fun uu => Below wr.heap.size wr uu) (i := 5) (v := Value.slice (some ⟨b2, o2, none⟩) n d) rfl (by kernel_rfl) (by kernel_rfl) (by kernel_rfl) (fun _ _ _ h => by first | exact h | exact h.elim) (by decide) (fun _ h => h.elim) (fun _ h => h) (Sx.behind (by kernel_rfl) hm0.out) (Or.inl ⟨by rfl, fun uu hu => by go_simp⟩) ?_
              try go_simp
              refine wpAnyX_both (T := fun uu => Below wr.heap.size wr uu) (i := 6) (v := Value.int .i64 (k : Int)) rfl (by kernel_rfl) (by kernel_rfl) (by kernel_rfl) (fun _ _ _ h => by first | exact h | exact h.elim) (by decide) (fun _ h => h.elim) (fun _ h => h) (Sx.behind (by kernel_rfl) hm0.out) (Or.inl ⟨by rfl, fun uu hu => by go_simp⟩) ?_
              try go_simp
              refine wpAnyX_both (T := fun uu => Below wr.heap.size wr uu) (i := 7) (v := Value.pointer (some ⟨b2, o2 + k * 5, none⟩)) rfl (by kernel_rfl) (by kernel_rfl) (by kernel_rfl) (fun _ _ _ h => by first | exact h | exact h.elim) (by decide) (fun _ h => h.elim) (fun _ h => h) (Sx.behind (by kernel_rfl) hm0.out) (Or.inl ⟨by rfl, fun uu hu => by go_simp⟩) ?_
              try go_simp
              refine wpAnyX_both (T := fun uu => Below wr.heap.size wr uu) (i := 8) (v := Value.pointer (some ⟨b2, o2 + k * 5, none⟩)) rfl (by kernel_rfl) (by kernel_rfl) (by kernel_rfl) (fun _ _ _ h => by first | exact h | exact h.elim) (by decide) (fun _ h => h.elim) (fun _ h => h) (Sx.behind (by kernel_rfl) hm0.out) (Or.inl ⟨by rfl, fun uu hu => by go_simp⟩) ?_
              try go_simp
              refine wpAnyX_both (T := fun uu => Below wr.heap.size wr uu) (i := 9) (v := Value.int .i64 v') rfl (by kernel_rfl) (by kernel_rfl) (by kernel_rfl) (fun _ _ _ h => by first | exact h | exact h.elim) (by decide) (fun _ h => h.elim) (fun _ h => h) (Sx.behind (by kernel_rfl) hm0.out) (Or.inl ⟨by rfl, fun uu hu => by have e0 := (kcell hu b2 (o2 + k * 5) l2).trans q0; go_simp⟩) ?_
              try go_simp
              refine wpAnyX_both (T := fun uu => Below wr.heap.size wr uu) (i := 10) (v := Value.bool false) rfl (by kernel_rfl) (by kernel_rfl) (by kernel_rfl) (fun _ _ _ h => by first | exact h | exact h.elim) (by decide) (fun _ h => h.elim) (fun _ h => h) (Sx.behind (by kernel_rfl) hm0.out) (Or.inl ⟨by rfl, fun uu hu => by go_simp⟩) ?_
              try go_simp
              refine wpAnyX_both (T := fun uu => Below wr.heap.size wr uu) (i := 11) (v := Value.bool false) rfl (by kernel_rfl) (by kernel_rfl) (by kernel_rfl) (fun _ _ _ h => by first | exact h | exact h.elim) (by decide) (fun _ h => h.elim) (fun _ h => h) (Sx.behind (by kernel_rfl) hm0.out) (Or.inl ⟨by rfl, fun uu hu => by go_simp⟩) ?_
              try go_simp
              refine wpAnyX_both (T := fun uu => Below wr.heap.size wr uu) (i := 12) (v := Value.slice (some ⟨b1, o1, none⟩) n c) rfl (by kernel_rfl) (by kernel_rfl) (by kernel_rfl) (fun _ _ _ h => by first | exact h | exact h.elim) (by decide) (fun _ h => h.elim) (fun _ h => h) (Sx.behind (by kernel_rfl) hm0.out) (Or.inl ⟨by rfl, fun uu hu => by go_simp⟩) ?_
              try go_simp
              refine wpAnyX_both (T := fun uu => Below wr.heap.size wr uu) (i := 13) (v := Value.int .i64 (k : Int)) rfl (by kernel_rfl) (by kernel_rfl) (by kernel_rfl) (fun _ _ _ h => by first | exact h | exact h.elim) (by decide) (fun _ h => h.elim) (fun _ h => h) (Sx.behind (by kernel_rfl) hm0.out) (Or.inl ⟨by rfl, fun uu hu => by go_simp⟩) ?_
              try go_simp
              refine wpAnyX_both (T := fun uu => Below wr.heap.size wr uu) (i := 14) (v := Value.pointer (some ⟨b1, o1 + k * 5, none⟩)) rfl (by kernel_rfl) (by kernel_rfl) (by kernel_rfl) (fun _ _ _ h => by first | exact h | exact h.elim) (by decide) (fun _ h => h.elim) (fun _ h => h) (Sx.behind (by kernel_rfl) hm0.out) (Or.inl ⟨by rfl, fun uu hu => by go_simp⟩) ?_
              try go_simp
              refine wpAnyX_both (T := fun uu => Below wr.heap.size wr uu) (i := 15) (v := Value.pointer (some ⟨b1, o1 + k * 5 + 1, none⟩)) rfl (by kernel_rfl) (by kernel_rfl) (by kernel_rfl) (fun _ _ _ h => by first | exact h | exact h.elim) (by decide) (fun _ h => h.elim) (fun _ h => h) (Sx.behind (by kernel_rfl) hm0.out) (Or.inl ⟨by rfl, fun uu hu => by go_simp⟩) ?_
              try go_simp
              refine wpAnyX_both (T := fun uu => Below wr.heap.size wr uu) (i := 16) (v := Value.int .i64 lo) rfl (by kernel_rfl) (by kernel_rfl) (by kernel_rfl) (fun _ _ _ h => by first | exact h | exact h.elim) (by decide) (fun _ h => h.elim) (fun _ h => h) (Sx.behind (by kernel_rfl) hm0.out) (Or.inl ⟨by rfl, fun uu hu => by have e0 := (kcell hu b1 (o1 + k * 5 + 1) l1).trans p1; go_simp⟩) ?_
              try go_simp
              refine wpAnyX_both (T := fun uu => Below wr.heap.size wr uu) (i := 17) (v := Value.slice (some ⟨b2, o2, none⟩) n d) rfl (by kernel_rfl) (by kernel_rfl) (by kernel_rfl) (fun _ _ _ h => by first | exact h | exact h.elim) (by decide) (fun _ h => h.elim) (fun _ h => h) (Sx.behind (by kernel_rfl) hm0.out) (Or.inl ⟨by rfl, fun uu hu => by go_simp⟩) ?_
              try go_simp
              refine wpAnyX_both (T := fun uu => Below wr.heap.size wr uu) (i := 18) (v := Value.int .i64 (k : Int)) rfl (by kernel_rfl) (by kernel_rfl) (by kernel_rfl) (fun _ _ _ h => by first | exact h | exact h.elim) (by decide) (fun _ h => h.elim) (fun _ h => h) (Sx.behind (by kernel_rfl) hm0.out) (Or.inl ⟨by rfl, fun uu hu => by go_simp⟩) ?_
              try go_simp
              refine wpAnyX_both (T := fun uu => Below wr.heap.size wr uu) (i := 19) (v := Value.pointer (some ⟨b2, o2 + k * 5, none⟩)) rfl (by kernel_rfl) (by kernel_rfl) (by kernel_rfl) (fun _ _ _ h => by first | exact h | exact h.elim) (by decide) (fun _ h => h.elim) (fun _ h => h) (Sx.behind (by kernel_rfl) hm0.out) (Or.inl ⟨by rfl, fun uu hu => by go_simp⟩) ?_
              try go_simp
              refine wpAnyX_both (T := fun uu => Below wr.heap.size wr uu) (i := 20) (v := Value.pointer (some ⟨b2, o2 + k * 5 + 1, none⟩)) rfl (by kernel_rfl) (by kernel_rfl) (by kernel_rfl) (fun _ _ _ h => by first | exact h | exact h.elim) (by decide) (fun _ h => h.elim) (fun _ h => h) (Sx.behind (by kernel_rfl) hm0.out) (Or.inl ⟨by rfl, fun uu hu => by go_simp⟩) ?_
              try go_simp
              refine wpAnyX_both (T := fun uu => Below wr.heap.size wr uu) (i := 21) (v := Value.int .i64 lo') rfl (by kernel_rfl) (by kernel_rfl) (by kernel_rfl) (fun _ _ _ h => by first | exact h | exact h.elim) (by decide) (fun _ h => h.elim) (fun _ h => h) (Sx.behind (by kernel_rfl) hm0.out) (Or.inl ⟨by rfl, fun uu hu => by have e0 := (kcell hu b2 (o2 + k * 5 + 1) l2).trans q1; go_simp⟩) ?_
              try go_simp
              refine wpAnyX_both (T := fun uu => Below wr.heap.size wr uu) (i := 22) (v := Value.bool false) rfl (by kernel_rfl) (by kernel_rfl) (by kernel_rfl) (fun _ _ _ h => by first | exact h | exact h.elim) (by decide) (fun _ h => h.elim) (fun _ h => h) (Sx.behind (by kernel_rfl) hm0.out) (Or.inl ⟨by rfl, fun uu hu => by go_simp⟩) ?_
              try go_simp
              refine wpAnyX_both (T := fun uu => Below wr.heap.size wr uu) (i := 23) (v := Value.bool false) rfl (by kernel_rfl) (by kernel_rfl) (by kernel_rfl) (fun _ _ _ h => by first | exact h | exact h.elim) (by decide) (fun _ h => h.elim) (fun _ h => h) (Sx.behind (by kernel_rfl) hm0.out) (Or.inl ⟨by rfl, fun uu hu => by go_simp⟩) ?_
              try go_simp
              refine wpAnyX_both (T := fun uu => Below wr.heap.size wr uu) (i := 24) (v := Value.bool false) rfl (by kernel_rfl) (by kernel_rfl) (by kernel_rfl) (fun _ _ _ h => by first | exact h | exact h.elim) (by decide) (fun _ h => h.elim) (fun _ h => h) (Sx.behind (by kernel_rfl) hm0.out) (Or.inl ⟨by rfl, fun uu hu => by go_simp⟩) ?_
              try go_simp
              refine wpAnyX_both (T := fun uu => Below wr.heap.size wr uu) (i := 25) (v := Value.slice (some ⟨b1, o1, none⟩) n c) rfl (by kernel_rfl) (by kernel_rfl) (by kernel_rfl) (fun _ _ _ h => by first | exact h | exact h.elim) (by decide) (fun _ h => h.elim) (fun _ h => h) (Sx.behind (by kernel_rfl) hm0.out) (Or.inl ⟨by rfl, fun uu hu => by go_simp⟩) ?_
              try go_simp
              refine wpAnyX_both (T := fun uu => Below wr.heap.size wr uu) (i := 26) (v := Value.int .i64 (k : Int)) rfl (by kernel_rfl) (by kernel_rfl) (by kernel_rfl) (fun _ _ _ h => by first | exact h | exact h.elim) (by decide) (fun _ h => h.elim) (fun _ h => h) (Sx.behind (by kernel_rfl) hm0.out) (Or.inl ⟨by rfl, fun uu hu => by go_simp⟩) ?_
              try go_simp
              refine wpAnyX_both (T := fun uu => Below wr.heap.size wr uu) (i := 27) (v := Value.pointer (some ⟨b1, o1 + k * 5, none⟩)) rfl (by kernel_rfl) (by kernel_rfl) (by kernel_rfl) (fun _ _ _ h => by first | exact h | exact h.elim) (by decide) (fun _ h => h.elim) (fun _ h => h) (Sx.behind (by kernel_rfl) hm0.out) (Or.inl ⟨by rfl, fun uu hu => by go_simp⟩) ?_
              try go_simp
              refine wpAnyX_both (T := fun uu => Below wr.heap.size wr uu) (i := 28) (v := Value.pointer (some ⟨b1, o1 + k * 5 + 2, none⟩)) rfl (by kernel_rfl) (by kernel_rfl) (by kernel_rfl) (fun _ _ _ h => by first | exact h | exact h.elim) (by decide) (fun _ h => h.elim) (fun _ h => h) (Sx.behind (by kernel_rfl) hm0.out) (Or.inl ⟨by rfl, fun uu hu => by go_simp⟩) ?_
              try go_simp
              refine wpAnyX_both (T := fun uu => Below wr.heap.size wr uu) (i := 29) (v := Value.int .i64 wd) rfl (by kernel_rfl) (by kernel_rfl) (by kernel_rfl) (fun _ _ _ h => by first | exact h | exact h.elim) (by decide) (fun _ h => h.elim) (fun _ h => h) (Sx.behind (by kernel_rfl) hm0.out) (Or.inl ⟨by rfl, fun uu hu => by have e0 := (kcell hu b1 (o1 + k * 5 + 2) l1).trans p2; go_simp⟩) ?_
              try go_simp
              refine wpAnyX_both (T := fun uu => Below wr.heap.size wr uu) (i := 30) (v := Value.slice (some ⟨b2, o2, none⟩) n d) rfl (by kernel_rfl) (by kernel_rfl) (by kernel_rfl) (fun _ _ _ h => by first | exact h | exact h.elim) (by decide) (fun _ h => h.elim) (fun _ h => h) (Sx.behind (by kernel_rfl) hm0.out) (Or.inl ⟨by rfl, fun uu hu => by go_simp⟩) ?_
              try go_simp
              refine wpAnyX_both (T := fun uu => Below wr.heap.size wr uu) (i := 31) (v := Value.int .i64 (k : Int)) rfl (by kernel_rfl) (by kernel_rfl) (by kernel_rfl) (fun _ _ _ h => by first | exact h | exact h.elim) (by decide) (fun _ h => h.elim) (fun _ h => h) (Sx.behind (by kernel_rfl) hm0.out) (Or.inl ⟨by rfl, fun uu hu => by go_simp⟩) ?_
              try go_simp
              refine wpAnyX_both (T := fun uu => Below wr.heap.size wr uu) (i := 32) (v := Value.pointer (some ⟨b2, o2 + k * 5, none⟩)) rfl (by kernel_rfl) (by kernel_rfl) (by kernel_rfl) (fun _ _ _ h => by first | exact h | exact h.elim) (by decide) (fun _ h => h.elim) (fun _ h => h) (Sx.behind (by kernel_rfl) hm0.out) (Or.inl ⟨by rfl, fun uu hu => by go_simp⟩) ?_
              try go_simp
              refine wpAnyX_both (T := fun uu => Below wr.heap.size wr uu) (i := 33) (v := Value.pointer (some ⟨b2, o2 + k * 5 + 2, none⟩)) rfl (by kernel_rfl) (by kernel_rfl) (by kernel_rfl) (fun _ _ _ h => by first | exact h | exact h.elim) (by decide) (fun _ h => h.elim) (fun _ h => h) (Sx.behind (by kernel_rfl) hm0.out) (Or.inl ⟨by rfl, fun uu hu => by go_simp⟩) ?_
              try go_simp
              refine wpAnyX_both (T := fun uu => Below wr.heap.size wr uu) (i := 34) (v := Value.int .i64 wd') rfl (by kernel_rfl) (by kernel_rfl) (by kernel_rfl) (fun _ _ _ h => by first | exact h | exact h.elim) (by decide) (fun _ h => h.elim) (fun _ h => h) (Sx.behind (by kernel_rfl) hm0.out) (Or.inl ⟨by rfl, fun uu hu => by have e0 := (kcell hu b2 (o2 + k * 5 + 2) l2).trans q2; go_simp⟩) ?_
              try go_simp
              refine wpAnyX_both (T := fun uu => Below wr.heap.size wr uu) (i := 35) (v := Value.bool false) rfl (by kernel_rfl) (by kernel_rfl) (by kernel_rfl) (fun _ _ _ h => by first | exact h | exact h.elim) (by decide) (fun _ h => h.elim) (fun _ h => h) (Sx.behind (by kernel_rfl) hm0.out) (Or.inl ⟨by rfl, fun uu hu => by go_simp⟩) ?_
              try go_simp
              refine wpAnyX_both (T := fun uu => Below wr.heap.size wr uu) (i := 36) (v := Value.bool false) rfl (by kernel_rfl) (by kernel_rfl) (by kernel_rfl) (fun _ _ _ h => by first | exact h | exact h.elim) (by decide) (fun _ h => h.elim) (fun _ h => h) (Sx.behind (by kernel_rfl) hm0.out) (Or.inl ⟨by rfl, fun uu hu => by go_simp⟩) ?_
              try go_simp
              refine wpAnyX_both (T := fun uu => Below wr.heap.size wr uu) (i := 37) (v := Value.bool false) rfl (by kernel_rfl) (by kernel_rfl) (by kernel_rfl) (fun _ _ _ h => by first | exact h | exact h.elim) (by decide) (fun _ h => h.elim) (fun _ h => h) (Sx.behind (by kernel_rfl) hm0.out) (Or.inl ⟨by rfl, fun uu hu => by go_simp⟩) ?_
              try go_simp
              refine wpAnyX_both (T := fun uu => Below wr.heap.size wr uu) (i := 38) (v := Value.slice (some ⟨b1, o1, none⟩) n c) rfl (by kernel_rfl) (by kernel_rfl) (by kernel_rfl) (fun _ _ _ h => by first | exact h | exact h.elim) (by decide) (fun _ h => h.elim) (fun _ h => h) (Sx.behind (by kernel_rfl) hm0.out) (Or.inl ⟨by rfl, fun uu hu => by go_simp⟩) ?_
              try go_simp
              refine wpAnyX_both (T := fun uu => Below wr.heap.size wr uu) (i := 39) (v := Value.int .i64 (k : Int)) rfl (by kernel_rfl) (by kernel_rfl) (by kernel_rfl) (fun _ _ _ h => by first | exact h | exact h.elim) (by decide) (fun _ h => h.elim) (fun _ h => h) (Sx.behind (by kernel_rfl) hm0.out) (Or.inl ⟨by rfl, fun uu hu => by go_simp⟩) ?_
              try go_simp
              refine wpAnyX_both (T := fun uu => Below wr.heap.size wr uu) (i := 40) (v := Value.pointer (some ⟨b1, o1 + k * 5, none⟩)) rfl (by kernel_rfl) (by kernel_rfl) (by kernel_rfl) (fun _ _ _ h => by first | exact h | exact h.elim) (by decide) (fun _ h => h.elim) (fun _ h => h) (Sx.behind (by kernel_rfl) hm0.out) (Or.inl ⟨by rfl, fun uu hu => by go_simp⟩) ?_
              try go_simp
              refine wpAnyX_both (T := fun uu => Below wr.heap.size wr uu) (i := 41) (v := Value.pointer (some ⟨b1, o1 + k * 5 + 3, none⟩)) rfl (by kernel_rfl) (by kernel_rfl) (by kernel_rfl) (fun _ _ _ h => by first | exact h | exact h.elim) (by decide) (fun _ h => h.elim) (fun _ h => h) (Sx.behind (by kernel_rfl) hm0.out) (Or.inl ⟨by rfl, fun uu hu => by go_simp⟩) ?_
              try go_simp
              refine wpAnyX_both (T := fun uu => Below wr.heap.size wr uu) (i := 42) (v := Value.agg #[Value.int .i64 bw, Value.slice xa n1 xc]) rfl (by kernel_rfl) (by kernel_rfl) (by kernel_rfl) (fun _ _ _ h => by first | exact h | exact h.elim) (by decide) (fun _ h => h.elim) (fun _ h => h) (Sx.behind (by kernel_rfl) hm0.out) (Or.inl ⟨by rfl, fun uu hu => by have e0 := (kcell hu b1 (o1 + k * 5 + 3) l1).trans p3; have e1 := (kcell hu b1 (o1 + k * 5 + 4) l1).trans p4; go_simp⟩) ?_
              try go_simp
              refine wpAnyX_both (T := fun uu => Below wr.heap.size wr uu) (i := 43) (v := Value.slice (some ⟨b2, o2, none⟩) n d) rfl (by kernel_rfl) (by kernel_rfl) (by kernel_rfl) (fun _ _ _ h => by first | exact h | exact h.elim) (by decide) (fun _ h => h.elim) (fun _ h => h) (Sx.behind (by kernel_rfl) hm0.out) (Or.inl ⟨by rfl, fun uu hu => by go_simp⟩) ?_
              try go_simp
              refine wpAnyX_both (T := fun uu => Below wr.heap.size wr uu) (i := 44) (v := Value.int .i64 (k : Int)) rfl (by kernel_rfl) (by kernel_rfl) (by kernel_rfl) (fun _ _ _ h => by first | exact h | exact h.elim) (by decide) (fun _ h => h.elim) (fun _ h => h) (Sx.behind (by kernel_rfl) hm0.out) (Or.inl ⟨by rfl, fun uu hu => by go_simp⟩) ?_
              try go_simp
              refine wpAnyX_both (T := fun uu => Below wr.heap.size wr uu) (i := 45) (v := Value.pointer (some ⟨b2, o2 + k * 5, none⟩)) rfl (by kernel_rfl) (by kernel_rfl) (by kernel_rfl) (fun _ _ _ h => by first | exact h | exact h.elim) (by decide) (fun _ h => h.elim) (fun _ h => h) (Sx.behind (by kernel_rfl) hm0.out) (Or.inl ⟨by rfl, fun uu hu => by go_simp⟩) ?_
              try go_simp
              refine wpAnyX_both (T := fun uu => Below wr.heap.size wr uu) (i := 46) (v := Value.pointer (some ⟨b2, o2 + k * 5 + 3, none⟩)) rfl (by kernel_rfl) (by kernel_rfl) (by kernel_rfl) (fun _ _ _ h => by first | exact h | exact h.elim) (by decide) (fun _ h => h.elim) (fun _ h => h) (Sx.behind (by kernel_rfl) hm0.out) (Or.inl ⟨by rfl, fun uu hu => by go_simp⟩) ?_
              try go_simp
              refine wpAnyX_both (T := fun uu => Below wr.heap.size wr uu) (i := 47) (v := Value.agg #[Value.int .i64 bw', Value.slice ya n2 yc]) rfl (by kernel_rfl) (by kernel_rfl) (by kernel_rfl) (fun _ _ _ h => by first | exact h | exact h.elim) (by decide) (fun _ h => h.elim) (fun _ h => h) (Sx.behind (by kernel_rfl) hm0.out) (Or.inl ⟨by rfl, fun uu hu => by have e0 := (kcell hu b2 (o2 + k * 5 + 3) l2).trans q3; have e1 := (kcell hu b2 (o2 + k * 5 + 4) l2).trans q4; go_simp⟩) ?_
              try go_simp
              refine wpAnyX_ready (rs := [48]) (by kernel_rfl) (by simp) (AllX.cons rfl (fun K hK => ?_) AllX.nil)
              go_simp
              refine Calls.mono (HSA.out m0 hm0.out) ?_
              rintro e m1 ⟨rfl, hb⟩
              have hm1 : Hid (Below wr.heap.size wr m1) := hm0.out.trans (hb.mono hm0.out.size)
              refine hK _ _ (Sx.behind (by kernel_rfl) hm1.out) ?_
              clear hK K hb
              try go_simp
              refine wpAnyX_both (T := fun uu => Below wr.heap.size wr uu) (i := 49) (v := Value.bool (!Q)) rfl (by kernel_rfl) (by kernel_rfl) (by kernel_rfl) (fun _ _ _ h => by first | exact h | exact h.elim) (by decide) (fun _ h => h.elim) (fun _ h => h) (Sx.behind (by kernel_rfl) hm1.out) (Or.inl ⟨by rfl, fun uu hu => by first | go_simp | (cases Q <;> go_simp)⟩) ?_
              try go_simp
              refine wpAnyX_both (T := fun uu => Below wr.heap.size wr uu) (i := 50) (v := Value.bool (!Q)) rfl (by kernel_rfl) (by kernel_rfl) (by kernel_rfl) (fun _ _ _ h => by first | exact h | exact h.elim) (by decide) (fun _ h => h.elim) (fun _ h => h) (Sx.behind (by kernel_rfl) hm1.out) (Or.inl ⟨by rfl, fun uu hu => by first | go_simp | (cases Q <;> go_simp)⟩) ?_
              try go_simp
              refine wpAnyX_done (by kernel_rfl) ?_ _
              have B9 := kide (HB.out.trans (hm1.out.mono HB.out.size))
              cases Q with
              | true =>
                have hz1 := HQ.out
                go_wp2_with fail
                go_roundw
                case rel => exact ⟨k + 1, HKL.out, rfl, by rw [List.take_add_one, HGZ.out, Option.toList_some, List.all_append, HT.out]; simpa using HZQ.out.trans hz1.symm, B9.out⟩
                case measure => have := HKL.out; simp only [intOf]; omega
              | false =>
                have HF : Hid (V = false) := NO.out HQ.out.symm
                go_wp2_with fail
                go_ret
                exact ⟨by rw [HF.out]; rfl, B9.out⟩
            · have e1 : (v != v') = false := by simp [h1]
              have e2 : (lo != lo') = false := by simp [h2]
              have e3 : (wd != wd') = true := by simp [h3]
              have HF : Hid (V = false) := NO.out (by rw [← HZ2.out, decide_eq_false h3]; simp)
              clear h1 h2 h3
              go_wp2_with fail
              refine wp_region_x (SA := fun _ => False) (SB := fun uu => Below wr.heap.size wr uu) (k := 999) (by kernel_rfl) ?_
              have hm0 : Hid (Below wr.heap.size wr wr.drew) := (Below.refl _ _).drew
              generalize wr.drew = m0 at *
              try go_simp
              refine wpAnyX_both (T := fun uu => Below wr.heap.size wr uu) (i := 0) (v := Value.slice (some ⟨b1, o1, none⟩) n c) rfl (by kernel_rfl) (by kernel_rfl) (by kernel_rfl) (fun _ _ _ h => by first | exact h | exact h.elim) (by decide) (fun _ h => h.elim) (fun _ h => h) (Sx.behind (by kernel_rfl) hm0.out) (Or.inl ⟨by rfl, fun uu hu => by go_simp⟩) ?_
              try go_simp
              refine wpAnyX_both (T := fun uu => Below wr.heap.size wr uu) (i := 1) (v := Value.int .i64 (k : Int)) rfl (by kernel_rfl) (by kernel_rfl) (by kernel_rfl) (fun _ _ _ h => by first | exact h | exact h.elim) (by decide) (fun _ h => h.elim) (fun _ h => h) (Sx.behind (by kernel_rfl) hm0.out) (Or.inl ⟨by rfl, fun uu hu => by go_simp⟩) ?_
              try go_simp
              refine wpAnyX_both (T := fun uu => Below wr.heap.size wr uu) (i := 2) (v := Value.pointer (some ⟨b1, o1 + k * 5, none⟩)) rfl (by kernel_rfl) (by kernel_rfl) (by kernel_rfl) (fun _ _ _ h => by first | exact h | exact h.elim) (by decide) (fun _ h => h.elim) (fun _ h => h) (Sx.behind (by kernel_rfl) hm0.out) (Or.inl ⟨by rfl, fun uu hu => by go_simp⟩) ?_
              try go_simp
              refine wpAnyX_both (T := fun uu => Below wr.heap.size wr uu) (i := 3) (v := Value.pointer (some ⟨b1, o1 + k * 5, none⟩)) rfl (by kernel_rfl) (by kernel_rfl) (by kernel_rfl) (fun _ _ _ h => by first | exact h | exact h.elim) (by decide) (fun _ h => h.elim) (fun _ h => h) (Sx.behind (by kernel_rfl) hm0.out) (Or.inl ⟨by rfl, fun uu hu => by go_simp⟩) ?_
              try go_simp
              refine wpAnyX_both (T := fun uu => Below wr.heap.size wr uu) (i := 4) (v := Value.int .i64 v) rfl (by kernel_rfl) (by kernel_rfl) (by kernel_rfl) (fun _ _ _ h => by first | exact h | exact h.elim) (by decide) (fun _ h => h.elim) (fun _ h => h) (Sx.behind (by kernel_rfl) hm0.out) (Or.inl ⟨by rfl, fun uu hu => by have e0 := (kcell hu b1 (o1 + k * 5) l1).trans p0; go_simp⟩) ?_
              try go_simp
              refine wpAnyX_both (T := fun uu => Below wr.heap.size wr uu) (i := 5) (v := Value.slice (some ⟨b2, o2, none⟩) n d) rfl (by kernel_rfl) (by kernel_rfl) (by kernel_rfl) (fun _ _ _ h => by first | exact h | exact h.elim) (by decide) (fun _ h => h.elim) (fun _ h => h) (Sx.behind (by kernel_rfl) hm0.out) (Or.inl ⟨by rfl, fun uu hu => by go_simp⟩) ?_
              try go_simp
              refine wpAnyX_both (T := fun uu => Below wr.heap.size wr uu) (i := 6) (v := Value.int .i64 (k : Int)) rfl (by kernel_rfl) (by kernel_rfl) (by kernel_rfl) (fun _ _ _ h => by first | exact h | exact h.elim) (by decide) (fun _ h => h.elim) (fun _ h => h) (Sx.behind (by kernel_rfl) hm0.out) (Or.inl ⟨by rfl, fun uu hu => by go_simp⟩) ?_
              try go_simp
              refine wpAnyX_both (T := fun uu => Below wr.heap.size wr uu) (i := 7) (v := Value.pointer (some ⟨b2, o2 + k * 5, none⟩)) rfl (by kernel_rfl) (by kernel_rfl) (by kernel_rfl) (fun _ _ _ h => by first | exact h | exact h.elim) (by decide) (fun _ h => h.elim) (fun _ h => h) (Sx.behind (by kernel_rfl) hm0.out) (Or.inl ⟨by rfl, fun uu hu => by go_simp⟩) ?_
              try go_simp
              refine wpAnyX_both (T := fun uu => Below wr.heap.size wr uu) (i := 8) (v := Value.pointer (some ⟨b2, o2 + k * 5, none⟩)) rfl (by kernel_rfl) (by kernel_rfl) (by kernel_rfl) (fun _ _ _ h => by first | exact h | exact h.elim) (by decide) (fun _ h => h.elim) (fun _ h => h) (Sx.behind (by kernel_rfl) hm0.out) (Or.inl ⟨by rfl, fun uu hu => by go_simp⟩) ?_
              try go_simp
              refine wpAnyX_both (T := fun uu => Below wr.heap.size wr uu) (i := 9) (v := Value.int .i64 v') rfl (by kernel_rfl) (by kernel_rfl) (by kernel_rfl) (fun _ _ _ h => by first | exact h | exact h.elim) (by decide) (fun _ h => h.elim) (fun _ h => h) (Sx.behind (by kernel_rfl) hm0.out) (Or.inl ⟨by rfl, fun uu hu => by have e0 := (kcell hu b2 (o2 + k * 5) l2).trans q0; go_simp⟩) ?_
              try go_simp
              refine wpAnyX_both (T := fun uu => Below wr.heap.size wr uu) (i := 10) (v := Value.bool false) rfl (by kernel_rfl) (by kernel_rfl) (by kernel_rfl) (fun _ _ _ h => by first | exact h | exact h.elim) (by decide) (fun _ h => h.elim) (fun _ h => h) (Sx.behind (by kernel_rfl) hm0.out) (Or.inl ⟨by rfl, fun uu hu => by go_simp⟩) ?_
              try go_simp
              refine wpAnyX_both (T := fun uu => Below wr.heap.size wr uu) (i := 11) (v := Value.bool false) rfl (by kernel_rfl) (by kernel_rfl) (by kernel_rfl) (fun _ _ _ h => by first | exact h | exact h.elim) (by decide) (fun _ h => h.elim) (fun _ h => h) (Sx.behind (by kernel_rfl) hm0.out) (Or.inl ⟨by rfl, fun uu hu => by go_simp⟩) ?_
              try go_simp
              refine wpAnyX_both (T := fun uu => Below wr.heap.size wr uu) (i := 12) (v := Value.slice (some ⟨b1, o1, none⟩) n c) rfl (by kernel_rfl) (by kernel_rfl) (by kernel_rfl) (fun _ _ _ h => by first | exact h | exact h.elim) (by decide) (fun _ h => h.elim) (fun _ h => h) (Sx.behind (by kernel_rfl) hm0.out) (Or.inl ⟨by rfl, fun uu hu => by go_simp⟩) ?_
              try go_simp
              refine wpAnyX_both (T := fun uu => Below wr.heap.size wr uu) (i := 13) (v := Value.int .i64 (k : Int)) rfl (by kernel_rfl) (by kernel_rfl) (by kernel_rfl) (fun _ _ _ h => by first | exact h | exact h.elim) (by decide) (fun _ h => h.elim) (fun _ h => h) (Sx.behind (by kernel_rfl) hm0.out) (Or.inl ⟨by rfl, fun uu hu => by go_simp⟩) ?_
              try go_simp
              refine wpAnyX_both (T := fun uu => Below wr.heap.size wr uu) (i := 14) (v := Value.pointer (some ⟨b1, o1 + k * 5, none⟩)) rfl (by kernel_rfl) (by kernel_rfl) (by kernel_rfl) (fun _ _ _ h => by first | exact h | exact h.elim) (by decide) (fun _ h => h.elim) (fun _ h => h) (Sx.behind (by kernel_rfl) hm0.out) (Or.inl ⟨by rfl, fun uu hu => by go_simp⟩) ?_
              try go_simp
              refine wpAnyX_both (T := fun uu => Below wr.heap.size wr uu) (i := 15) (v := Value.pointer (some ⟨b1, o1 + k * 5 + 1, none⟩)) rfl (by kernel_rfl) (by kernel_rfl) (by kernel_rfl) (fun _ _ _ h => by first | exact h | exact h.elim) (by decide) (fun _ h => h.elim) (fun _ h => h) (Sx.behind (by kernel_rfl) hm0.out) (Or.inl ⟨by rfl, fun uu hu => by go_simp⟩) ?_
              try go_simp
              refine wpAnyX_both (T := fun uu => Below wr.heap.size wr uu) (i := 16) (v := Value.int .i64 lo) rfl (by kernel_rfl) (by kernel_rfl) (by kernel_rfl) (fun _ _ _ h => by first | exact h | exact h.elim) (by decide) (fun _ h => h.elim) (fun _ h => h) (Sx.behind (by kernel_rfl) hm0.out) (Or.inl ⟨by rfl, fun uu hu => by have e0 := (kcell hu b1 (o1 + k * 5 + 1) l1).trans p1; go_simp⟩) ?_
              try go_simp
              refine wpAnyX_both (T := fun uu => Below wr.heap.size wr uu) (i := 17) (v := Value.slice (some ⟨b2, o2, none⟩) n d) rfl (by kernel_rfl) (by kernel_rfl) (by kernel_rfl) (fun _ _ _ h => by first | exact h | exact h.elim) (by decide) (fun _ h => h.elim) (fun _ h => h) (Sx.behind (by kernel_rfl) hm0.out) (Or.inl ⟨by rfl, fun uu hu => by go_simp⟩) ?_
              try go_simp
              refine wpAnyX_both (T := fun uu => Below wr.heap.size wr uu) (i := 18) (v := Value.int .i64 (k : Int)) rfl (by kernel_rfl) (by kernel_rfl) (by kernel_rfl) (fun _ _ _ h => by first | exact h | exact h.elim) (by decide) (fun _ h => h.elim) (fun _ h => h) (Sx.behind (by kernel_rfl) hm0.out) (Or.inl ⟨by rfl, fun uu hu => by go_simp⟩) ?_
              try go_simp
              refine wpAnyX_both (T := fun uu => Below wr.heap.size wr uu) (i := 19) (v := Value.pointer (some ⟨b2, o2 + k * 5, none⟩)) rfl (by kernel_rfl) (by kernel_rfl) (by kernel_rfl) (fun _ _ _ h => by first | exact h | exact h.elim) (by decide) (fun _ h => h.elim) (fun _ h => h) (Sx.behind (by kernel_rfl) hm0.out) (Or.inl ⟨by rfl, fun uu hu => by go_simp⟩) ?_
              try go_simp
              refine wpAnyX_both (T := fun uu => Below wr.heap.size wr uu) (i := 20) (v := Value.pointer (some ⟨b2, o2 + k * 5 + 1, none⟩)) rfl (by kernel_rfl) (by kernel_rfl) (by kernel_rfl) (fun _ _ _ h => by first | exact h | exact h.elim) (by decide) (fun _ h => h.elim) (fun _ h => h) (Sx.behind (by kernel_rfl) hm0.out) (Or.inl ⟨by rfl, fun uu hu => by go_simp⟩) ?_
              try go_simp
              refine wpAnyX_both (T := fun uu => Below wr.heap.size wr uu) (i := 21) (v := Value.int .i64 lo') rfl (by kernel_rfl) (by kernel_rfl) (by kernel_rfl) (fun _ _ _ h => by first | exact h | exact h.elim) (by decide) (fun _ h => h.elim) (fun _ h => h) (Sx.behind (by kernel_rfl) hm0.out) (Or.inl ⟨by rfl, fun uu hu => by have e0 := (kcell hu b2 (o2 + k * 5 + 1) l2).trans q1; go_simp⟩) ?_
              try go_simp
              refine wpAnyX_both (T := fun uu => Below wr.heap.size wr uu) (i := 22) (v := Value.bool false) rfl (by kernel_rfl) (by kernel_rfl) (by kernel_rfl) (fun _ _ _ h => by first | exact h | exact h.elim) (by decide) (fun _ h => h.elim) (fun _ h => h) (Sx.behind (by kernel_rfl) hm0.out) (Or.inl ⟨by rfl, fun uu hu => by go_simp⟩) ?_
              try go_simp
              refine wpAnyX_both (T := fun uu => Below wr.heap.size wr uu) (i := 23) (v := Value.bool false) rfl (by kernel_rfl) (by kernel_rfl) (by kernel_rfl) (fun _ _ _ h => by first | exact h | exact h.elim) (by decide) (fun _ h => h.elim) (fun _ h => h) (Sx.behind (by kernel_rfl) hm0.out) (Or.inl ⟨by rfl, fun uu hu => by go_simp⟩) ?_
              try go_simp
              refine wpAnyX_both (T := fun uu => Below wr.heap.size wr uu) (i := 24) (v := Value.bool false) rfl (by kernel_rfl) (by kernel_rfl) (by kernel_rfl) (fun _ _ _ h => by first | exact h | exact h.elim) (by decide) (fun _ h => h.elim) (fun _ h => h) (Sx.behind (by kernel_rfl) hm0.out) (Or.inl ⟨by rfl, fun uu hu => by go_simp⟩) ?_
              try go_simp
              refine wpAnyX_both (T := fun uu => Below wr.heap.size wr uu) (i := 25) (v := Value.slice (some ⟨b1, o1, none⟩) n c) rfl (by kernel_rfl) (by kernel_rfl) (by kernel_rfl) (fun _ _ _ h => by first | exact h | exact h.elim) (by decide) (fun _ h => h.elim) (fun _ h => h) (Sx.behind (by kernel_rfl) hm0.out) (Or.inl ⟨by rfl, fun uu hu => by go_simp⟩) ?_
              try go_simp
              refine wpAnyX_both (T := fun uu => Below wr.heap.size wr uu) (i := 26) (v := Value.int .i64 (k : Int)) rfl (by kernel_rfl) (by kernel_rfl) (by kernel_rfl) (fun _ _ _ h => by first | exact h | exact h.elim) (by decide) (fun _ h => h.elim) (fun _ h => h) (Sx.behind (by kernel_rfl) hm0.out) (Or.inl ⟨by rfl, fun uu hu => by go_simp⟩) ?_
              try go_simp
              refine wpAnyX_both (T := fun uu => Below wr.heap.size wr uu) (i := 27) (v := Value.pointer (some ⟨b1, o1 + k * 5, none⟩)) rfl (by kernel_rfl) (by kernel_rfl) (by kernel_rfl) (fun _ _ _ h => by first | exact h | exact h.elim) (by decide) (fun _ h => h.elim) (fun _ h => h) (Sx.behind (by kernel_rfl) hm0.out) (Or.inl ⟨by rfl, fun uu hu => by go_simp⟩) ?_
              try go_simp
              refine wpAnyX_both (T := fun uu => Below wr.heap.size wr uu) (i := 28) (v := Value.pointer (some ⟨b1, o1 + k * 5 + 2, none⟩)) rfl (by kernel_rfl) (by kernel_rfl) (by kernel_rfl) (fun _ _ _ h => by first | exact h | exact h.elim) (by decide) (fun _ h => h.elim) (fun _ h => h) (Sx.behind (by kernel_rfl) hm0.out) (Or.inl ⟨by rfl, fun uu hu => by go_simp⟩) ?_
              try go_simp
              refine wpAnyX_both (T := fun uu => Below wr.heap.size wr uu) (i := 29) (v := Value.int .i64 wd) rfl (by kernel_rfl) (by kernel_rfl) (by kernel_rfl) (fun _ _ _ h => by first | exact h | exact h.elim) (by decide) (fun _ h => h.elim) (fun _ h => h) (Sx.behind (by kernel_rfl) hm0.out) (Or.inl ⟨by rfl, fun uu hu => by have e0 := (kcell hu b1 (o1 + k * 5 + 2) l1).trans p2; go_simp⟩) ?_
              try go_simp
              refine wpAnyX_both (T := fun uu => Below wr.heap.size wr uu) (i := 30) (v := Value.slice (some ⟨b2, o2, none⟩) n d) rfl (by kernel_rfl) (by kernel_rfl) (by kernel_rfl) (fun _ _ _ h => by first | exact h | exact h.elim) (by decide) (fun _ h => h.elim) (fun _ h => h) (Sx.behind (by kernel_rfl) hm0.out) (Or.inl ⟨by rfl, fun uu hu => by go_simp⟩) ?_
              try go_simp
              refine wpAnyX_both (T := fun uu => Below wr.heap.size wr uu) (i := 31) (v := Value.int .i64 (k : Int)) rfl (by kernel_rfl) (by kernel_rfl) (by kernel_rfl) (fun _ _ _ h => by first | exact h | exact h.elim) (by decide) (fun _ h => h.elim) (fun _ h => h) (Sx.behind (by kernel_rfl) hm0.out) (Or.inl ⟨by rfl, fun uu hu => by go_simp⟩) ?_
              try go_simp
              refine wpAnyX_both (T := fun uu => Below wr.heap.size wr uu) (i := 32) (v := Value.pointer (some ⟨b2, o2 + k * 5, none⟩)) rfl (by kernel_rfl) (by kernel_rfl) (by kernel_rfl) (fun _ _ _ h => by first | exact h | exact h.elim) (by decide) (fun _ h => h.elim) (fun _ h => h) (Sx.behind (by kernel_rfl) hm0.out) (Or.inl ⟨by rfl, fun uu hu => by go_simp⟩) ?_
              try go_simp
              refine wpAnyX_both (T := fun uu => Below wr.heap.size wr uu) (i := 33) (v := Value.pointer (some ⟨b2, o2 + k * 5 + 2, none⟩)) rfl (by kernel_rfl) (by kernel_rfl) (by kernel_rfl) (fun _ _ _ h => by first | exact h | exact h.elim) (by decide) (fun _ h => h.elim) (fun _ h => h) (Sx.behind (by kernel_rfl) hm0.out) (Or.inl ⟨by rfl, fun uu hu => by go_simp⟩) ?_
              try go_simp
              refine wpAnyX_both (T := fun uu => Below wr.heap.size wr uu) (i := 34) (v := Value.int .i64 wd') rfl (by kernel_rfl) (by kernel_rfl) (by kernel_rfl) (fun _ _ _ h => by first | exact h | exact h.elim) (by decide) (fun _ h => h.elim) (fun _ h => h) (Sx.behind (by kernel_rfl) hm0.out) (Or.inl ⟨by rfl, fun uu hu => by have e0 := (kcell hu b2 (o2 + k * 5 + 2) l2).trans q2; go_simp⟩) ?_
              try go_simp
              refine wpAnyX_both (T := fun uu => Below wr.heap.size wr uu) (i := 35) (v := Value.bool true) rfl (by kernel_rfl) (by kernel_rfl) (by kernel_rfl) (fun _ _ _ h => by first | exact h | exact h.elim) (by decide) (fun _ h => h.elim) (fun _ h => h) (Sx.behind (by kernel_rfl) hm0.out) (Or.inl ⟨by rfl, fun uu hu => by go_simp⟩) ?_
              try go_simp
              refine wpAnyX_both (T := fun uu => Below wr.heap.size wr uu) (i := 36) (v := Value.bool true) rfl (by kernel_rfl) (by kernel_rfl) (by kernel_rfl) (fun _ _ _ h => by first | exact h | exact h.elim) (by decide) (fun _ h => h.elim) (fun _ h => h) (Sx.behind (by kernel_rfl) hm0.out) (Or.inl ⟨by rfl, fun uu hu => by go_simp⟩) ?_
              try go_simp
              refine wpAnyX_both (T := fun uu => Below wr.heap.size wr uu) (i := 37) (v := Value.bool true) rfl (by kernel_rfl) (by kernel_rfl) (by kernel_rfl) (fun _ _ _ h => by first | exact h | exact h.elim) (by decide) (fun _ h => h.elim) (fun _ h => h) (Sx.behind (by kernel_rfl) hm0.out) (Or.inl ⟨by rfl, fun uu hu => by go_simp⟩) ?_
              try go_simp
              refine wpAnyX_both (T := fun uu => Below wr.heap.size wr uu) (i := 38) (v := undef) rfl (by kernel_rfl) (by kernel_rfl) (by kernel_rfl) (fun _ _ _ h => by first | exact h | exact h.elim) (by decide) (fun _ h => h.elim) (fun _ h => h) (Sx.behind (by kernel_rfl) hm0.out) (Or.inr ⟨by rfl, rfl⟩) ?_
              try go_simp
              refine wpAnyX_both (T := fun uu => Below wr.heap.size wr uu) (i := 39) (v := undef) rfl (by kernel_rfl) (by kernel_rfl) (by kernel_rfl) (fun _ _ _ h => by first | exact h | exact h.elim) (by decide) (fun _ h => h.elim) (fun _ h => h) (Sx.behind (by kernel_rfl) hm0.out) (Or.inr ⟨by rfl, rfl⟩) ?_
              try go_simp
              refine wpAnyX_both (T := fun uu => Below wr.heap.size wr uu) (i := 40) (v := undef) rfl (by kernel_rfl) (by kernel_rfl) (by kernel_rfl) (fun _ _ _ h => by first | exact h | exact h.elim) (by decide) (fun _ h => h.elim) (fun _ h => h) (Sx.behind (by kernel_rfl) hm0.out) (Or.inr ⟨by rfl, rfl⟩) ?_
              try go_simp
              refine wpAnyX_both (T := fun uu => Below wr.heap.size wr uu) (i := 41) (v := undef) rfl (by kernel_rfl) (by kernel_rfl) (by kernel_rfl) (fun _ _ _ h => by first | exact h | exact h.elim) (by decide) (fun _ h => h.elim) (fun _ h => h) (Sx.behind (by kernel_rfl) hm0.out) (Or.inr ⟨by rfl, rfl⟩) ?_
              try go_simp
              refine wpAnyX_both (T := fun uu => Below wr.heap.size wr uu) (i := 42) (v := undef) rfl (by kernel_rfl) (by kernel_rfl) (by kernel_rfl) (fun _ _ _ h => by first | exact h | exact h.elim) (by decide) (fun _ h => h.elim) (fun _ h => h) (Sx.behind (by kernel_rfl) hm0.out) (Or.inr ⟨by rfl, rfl⟩) ?_
              try go_simp
              refine wpAnyX_both (T := fun uu => Below wr.heap.size wr uu) (i := 43) (v := undef) rfl (by kernel_rfl) (by kernel_rfl) (by kernel_rfl) (fun _ _ _ h => by first | exact h | exact h.elim) (by decide) (fun _ h => h.elim) (fun _ h => h) (Sx.behind (by kernel_rfl) hm0.out) (Or.inr ⟨by rfl, rfl⟩) ?_
              try go_simp
              refine wpAnyX_both (T := fun uu => Below wr.heap.size wr uu) (i := 44) (v := undef) rfl (by kernel_rfl) (by kernel_rfl) (by kernel_rfl) (fun _ _ _ h => by first | exact h | exact h.elim) (by decide) (fun _ h => h.elim) (fun _ h => h) (Sx.behind (by kernel_rfl) hm0.out) (Or.inr ⟨by rfl, rfl⟩) ?_
              try go_simp
              refine wpAnyX_both (T := fun uu => Below wr.heap.size wr uu) (i := 45) (v := undef) rfl (by kernel_rfl) (by kernel_rfl) (by kernel_rfl) (fun _ _ _ h => by first | exact h | exact h.elim) (by decide) (fun _ h => h.elim) (fun _ h => h) (Sx.behind (by kernel_rfl) hm0.out) (Or.inr ⟨by rfl, rfl⟩) ?_
              try go_simp
              refine wpAnyX_both (T := fun uu => Below wr.heap.size wr uu) (i := 46) (v := undef) rfl (by kernel_rfl) (by kernel_rfl) (by kernel_rfl) (fun _ _ _ h => by first | exact h | exact h.elim) (by decide) (fun _ h => h.elim) (fun _ h => h) (Sx.behind (by kernel_rfl) hm0.out) (Or.inr ⟨by rfl, rfl⟩) ?_
              try go_simp
              refine wpAnyX_both (T := fun uu => Below wr.heap.size wr uu) (i := 47) (v := undef) rfl (by kernel_rfl) (by kernel_rfl) (by kernel_rfl) (fun _ _ _ h => by first | exact h | exact h.elim) (by decide) (fun _ h => h.elim) (fun _ h => h) (Sx.behind (by kernel_rfl) hm0.out) (Or.inr ⟨by rfl, rfl⟩) ?_
              try go_simp
              refine wpAnyX_both (T := fun uu => Below wr.heap.size wr uu) (i := 48) (v := undef) rfl (by kernel_rfl) (by kernel_rfl) (by kernel_rfl) (fun _ _ _ h => by first | exact h | exact h.elim) (by decide) (fun _ h => h.elim) (fun _ h => h) (Sx.behind (by kernel_rfl) hm0.out) (Or.inr ⟨by rfl, rfl⟩) ?_
              try go_simp
              refine wpAnyX_both (T := fun uu => Below wr.heap.size wr uu) (i := 49) (v := undef) rfl (by kernel_rfl) (by kernel_rfl) (by kernel_rfl) (fun _ _ _ h => by first | exact h | exact h.elim) (by decide) (fun _ h => h.elim) (fun _ h => h) (Sx.behind (by kernel_rfl) hm0.out) (Or.inr ⟨by rfl, rfl⟩) ?_
              try go_simp
              refine wpAnyX_both (T := fun uu => Below wr.heap.size wr uu) (i := 50) (v := Value.bool true) rfl (by kernel_rfl) (by kernel_rfl) (by kernel_rfl) (fun _ _ _ h => by first | exact h | exact h.elim) (by decide) (fun _ h => h.elim) (fun _ h => h) (Sx.behind (by kernel_rfl) hm0.out) (Or.inl ⟨by rfl, fun uu hu => by go_simp⟩) ?_
              try go_simp
              refine wpAnyX_done (by kernel_rfl) ?_ _
              have B9 := kide (HB.out.trans (hm0.out.mono HB.out.size))
              go_wp2_with fail
              go_ret
              exact ⟨by rw [HF.out]; rfl, B9.out⟩
          · have e1 : (v != v') = false := by simp [h1]
            have e2 : (lo != lo') = true := by simp [h2]
            have HF : Hid (V = false) := NO.out (by rw [← HZ2.out, decide_eq_false h2]; simp)
            clear h1 h2
            go_wp2_with fail
            refine wp_region_x (SA := fun _ => False) (SB := fun uu => Below wr.heap.size wr uu) (k := 999) (by kernel_rfl) ?_
            have hm0 : Hid (Below wr.heap.size wr wr.drew) := (Below.refl _ _).drew
            generalize wr.drew = m0 at *
            try go_simp
            refine wpAnyX_both (T := fun uu => Below wr.heap.size wr uu) (i := 0) (v := Value.slice (some ⟨b1, o1, none⟩) n c) rfl (by kernel_rfl) (by kernel_rfl) (by kernel_rfl) (fun _ _ _ h => by first | exact h | exact h.elim) (by decide) (fun _ h => h.elim) (fun _ h => h) (Sx.behind (by kernel_rfl) hm0.out) (Or.inl ⟨by rfl, fun uu hu => by go_simp⟩) ?_
            try go_simp
            refine wpAnyX_both (T := fun uu => Below wr.heap.size wr uu) (i := 1) (v := Value.int .i64 (k : Int)) rfl (by kernel_rfl) (by kernel_rfl) (by kernel_rfl) (fun _ _ _ h => by first | exact h | exact h.elim) (by decide) (fun _ h => h.elim) (fun _ h => h) (Sx.behind (by kernel_rfl) hm0.out) (Or.inl ⟨by rfl, fun uu hu => by go_simp⟩) ?_
            try go_simp
            refine wpAnyX_both (T := fun uu => Below wr.heap.size wr uu) (i := 2) (v := Value.pointer (some ⟨b1, o1 + k * 5, none⟩)) rfl (by kernel_rfl) (by kernel_rfl) (by kernel_rfl) (fun _ _ _ h => by first | exact h | exact h.elim) (by decide) (fun _ h => h.elim) (fun _ h => h) (Sx.behind (by kernel_rfl) hm0.out) (Or.inl ⟨by rfl, fun uu hu => by go_simp⟩) ?_
            try go_simp
            refine wpAnyX_both (T := fun uu => Below wr.heap.size wr uu) (i := 3) (v := Value.pointer (some ⟨b1, o1 + k * 5, none⟩)) rfl (by kernel_rfl) (by kernel_rfl) (by kernel_rfl) (fun _ _ _ h => by first | exact h | exact h.elim) (by decide) (fun _ h => h.elim) (fun _ h => h) (Sx.behind (by kernel_rfl) hm0.out) (Or.inl ⟨by rfl, fun uu hu => by go_simp⟩) ?_
            try go_simp
            refine wpAnyX_both (T := fun uu => Below wr.heap.size wr uu) (i := 4) (v := Value.int .i64 v) rfl (by kernel_rfl) (by kernel_rfl) (by kernel_rfl) (fun _ _ _ h => by first | exact h | exact h.elim) (by decide) (fun _ h => h.elim) (fun _ h => h) (Sx.behind (by kernel_rfl) hm0.out) (Or.inl ⟨by rfl, fun uu hu => by have e0 := (kcell hu b1 (o1 + k * 5) l1).trans p0; go_simp⟩) ?_
            try go_simp
            refine wpAnyX_both (T := fun uu => Below wr.heap.size wr uu) (i := 5) (v := Value.slice (some ⟨b2, o2, none⟩) n d) rfl (by kernel_rfl) (by kernel_rfl) (by kernel_rfl) (fun _ _ _ h => by first | exact h | exact h.elim) (by decide) (fun _ h => h.elim) (fun _ h => h) (Sx.behind (by kernel_rfl) hm0.out) (Or.inl ⟨by rfl, fun uu hu => by go_simp⟩) ?_
            try go_simp
            refine wpAnyX_both (T := fun uu => Below wr.heap.size wr uu) (i := 6) (v := Value.int .i64 (k : Int)) rfl (by kernel_rfl) (by kernel_rfl) (by kernel_rfl) (fun _ _ _ h => by first | exact h | exact h.elim) (by decide) (fun _ h => h.elim) (fun _ h => h) (Sx.behind (by kernel_rfl) hm0.out) (Or.inl ⟨by rfl, fun uu hu => by go_simp⟩) ?_
            try go_simp
            refine wpAnyX_both (T := fun uu => Below wr.heap.size wr uu) (i := 7) (v := Value.pointer (some ⟨b2, o2 + k * 5, none⟩)) rfl (by kernel_rfl) (by kernel_rfl) (by kernel_rfl) (fun _ _ _ h => by first | exact h | exact h.elim) (by decide) (fun _ h => h.elim) (fun _ h => h) (Sx.behind (by kernel_rfl) hm0.out) (Or.inl ⟨by rfl, fun uu hu => by go_simp⟩) ?_
            try go_simp
            refine wpAnyX_both (T := fun uu => Below wr.heap.size wr uu) (i := 8) (v := Value.pointer (some ⟨b2, o2 + k * 5, none⟩)) rfl (by kernel_rfl) (by kernel_rfl) (by kernel_rfl) (fun _ _ _ h => by first | exact h | exact h.elim) (by decide) (fun _ h => h.elim) (fun _ h => h) (Sx.behind (by kernel_rfl) hm0.out) (Or.inl ⟨by rfl, fun uu hu => by go_simp⟩) ?_
            try go_simp
            refine wpAnyX_both (T := fun uu => Below wr.heap.size wr uu) (i := 9) (v := Value.int .i64 v') rfl (by kernel_rfl) (by kernel_rfl) (by kernel_rfl) (fun _ _ _ h => by first | exact h | exact h.elim) (by decide) (fun _ h => h.elim) (fun _ h => h) (Sx.behind (by kernel_rfl) hm0.out) (Or.inl ⟨by rfl, fun uu hu => by have e0 := (kcell hu b2 (o2 + k * 5) l2).trans q0; go_simp⟩) ?_
            try go_simp
            refine wpAnyX_both (T := fun uu => Below wr.heap.size wr uu) (i := 10) (v := Value.bool false) rfl (by kernel_rfl) (by kernel_rfl) (by kernel_rfl) (fun _ _ _ h => by first | exact h | exact h.elim) (by decide) (fun _ h => h.elim) (fun _ h => h) (Sx.behind (by kernel_rfl) hm0.out) (Or.inl ⟨by rfl, fun uu hu => by go_simp⟩) ?_
            try go_simp
            refine wpAnyX_both (T := fun uu => Below wr.heap.size wr uu) (i := 11) (v := Value.bool false) rfl (by kernel_rfl) (by kernel_rfl) (by kernel_rfl) (fun _ _ _ h => by first | exact h | exact h.elim) (by decide) (fun _ h => h.elim) (fun _ h => h) (Sx.behind (by kernel_rfl) hm0.out) (Or.inl ⟨by rfl, fun uu hu => by go_simp⟩) ?_
            try go_simp
            refine wpAnyX_both (T := fun uu => Below wr.heap.size wr uu) (i := 12) (v := Value.slice (some ⟨b1, o1, none⟩) n c) rfl (by kernel_rfl) (by kernel_rfl) (by kernel_rfl) (fun _ _ _ h => by first | exact h | exact h.elim) (by decide) (fun _ h => h.elim) (fun _ h => h) (Sx.behind (by kernel_rfl) hm0.out) (Or.inl ⟨by rfl, fun uu hu => by go_simp⟩) ?_
            try go_simp
            refine wpAnyX_both (T := fun uu => Below wr.heap.size wr uu) (i := 13) (v := Value.int .i64 (k : Int)) rfl (by kernel_rfl) (by kernel_rfl) (by kernel_rfl) (fun _ _ _ h => by first | exact h | exact h.elim) (by decide) (fun _ h => h.elim) (fun _ h => h) (Sx.behind (by kernel_rfl) hm0.out) (Or.inl ⟨by rfl, fun uu hu => by go_simp⟩) ?_
            try go_simp
            refine wpAnyX_both (T := fun uu => Below wr.heap.size wr uu) (i := 14) (v := Value.pointer (some ⟨b1, o1 + k * 5, none⟩)) rfl (by kernel_rfl) (by kernel_rfl) (by kernel_rfl) (fun _ _ _ h => by first | exact h | exact h.elim) (by decide) (fun _ h => h.elim) (fun _ h => h) (Sx.behind (by kernel_rfl) hm0.out) (Or.inl ⟨by rfl, fun uu hu => by go_simp⟩) ?_
            try go_simp
            refine wpAnyX_both (T := fun uu => Below wr.heap.size wr uu) (i := 15) (v := Value.pointer (some ⟨b1, o1 + k * 5 + 1, none⟩)) rfl (by kernel_rfl) (by kernel_rfl) (by kernel_rfl) (fun _ _ _ h => by first | exact h | exact h.elim) (by decide) (fun _ h => h.elim) (fun _ h => h) (Sx.behind (by kernel_rfl) hm0.out) (Or.inl ⟨by rfl, fun uu hu => by go_simp⟩) ?_
            try go_simp
            refine wpAnyX_both (T := fun uu => Below wr.heap.size wr uu) (i := 16) (v := Value.int .i64 lo) rfl (by kernel_rfl) (by kernel_rfl) (by kernel_rfl) (fun _ _ _ h => by first | exact h | exact h.elim) (by decide) (fun _ h => h.elim) (fun _ h => h) (Sx.behind (by kernel_rfl) hm0.out) (Or.inl ⟨by rfl, fun uu hu => by have e0 := (kcell hu b1 (o1 + k * 5 + 1) l1).trans p1; go_simp⟩) ?_
            try go_simp
            refine wpAnyX_both (T := fun uu => Below wr.heap.size wr uu) (i := 17) (v := Value.slice (some ⟨b2, o2, none⟩) n d) rfl (by kernel_rfl) (by kernel_rfl) (by kernel_rfl) (fun _ _ _ h => by first | exact h | exact h.elim) (by decide) (fun _ h => h.elim) (fun _ h => h) (Sx.behind (by kernel_rfl) hm0.out) (Or.inl ⟨by rfl, fun uu hu => by go_simp⟩) ?_
            try go_simp
            refine wpAnyX_both (T := fun uu => Below wr.heap.size wr uu) (i := 18) (v := Value.int .i64 (k : Int)) rfl (by kernel_rfl) (by kernel_rfl) (by kernel_rfl) (fun _ _ _ h => by first | exact h | exact h.elim) (by decide) (fun _ h => h.elim) (fun _ h => h) (Sx.behind (by kernel_rfl) hm0.out) (Or.inl ⟨by rfl, fun uu hu => by go_simp⟩) ?_
            try go_simp
            refine wpAnyX_both (T := fun uu => Below wr.heap.size wr uu) (i := 19) (v := Value.pointer (some ⟨b2, o2 + k * 5, none⟩)) rfl (by kernel_rfl) (by kernel_rfl) (by kernel_rfl) (fun _ _ _ h => by first | exact h | exact h.elim) (by decide) (fun _ h => h.elim) (fun _ h => h) (Sx.behind (by kernel_rfl) hm0.out) (Or.inl ⟨by rfl, fun uu hu => by go_simp⟩) ?_
            try go_simp
            refine wpAnyX_both (T := fun uu => Below wr.heap.size wr uu) (i := 20) (v := Value.pointer (some ⟨b2, o2 + k * 5 + 1, none⟩)) rfl (by kernel_rfl) (by kernel_rfl) (by kernel_rfl) (fun _ _ _ h => by first | exact h | exact h.elim) (by decide) (fun _ h => h.elim) (fun _ h => h) (Sx.behind (by kernel_rfl) hm0.out) (Or.inl ⟨by rfl, fun uu hu => by go_simp⟩) ?_
            try go_simp
            refine wpAnyX_both (T := fun uu => Below wr.heap.size wr uu) (i := 21) (v := Value.int .i64 lo') rfl (by kernel_rfl) (by kernel_rfl) (by kernel_rfl) (fun _ _ _ h => by first | exact h | exact h.elim) (by decide) (fun _ h => h.elim) (fun _ h => h) (Sx.behind (by kernel_rfl) hm0.out) (Or.inl ⟨by rfl, fun uu hu => by have e0 := (kcell hu b2 (o2 + k * 5 + 1) l2).trans q1; go_simp⟩) ?_
            try go_simp
            refine wpAnyX_both (T := fun uu => Below wr.heap.size wr uu) (i := 22) (v := Value.bool true) rfl (by kernel_rfl) (by kernel_rfl) (by kernel_rfl) (fun _ _ _ h => by first | exact h | exact h.elim) (by decide) (fun _ h => h.elim) (fun _ h => h) (Sx.behind (by kernel_rfl) hm0.out) (Or.inl ⟨by rfl, fun uu hu => by go_simp⟩) ?_
            try go_simp
            refine wpAnyX_both (T := fun uu => Below wr.heap.size wr uu) (i := 23) (v := Value.bool true) rfl (by kernel_rfl) (by kernel_rfl) (by kernel_rfl) (fun _ _ _ h => by first | exact h | exact h.elim) (by decide) (fun _ h => h.elim) (fun _ h => h) (Sx.behind (by kernel_rfl) hm0.out) (Or.inl ⟨by rfl, fun uu hu => by go_simp⟩) ?_
            try go_simp
            refine wpAnyX_both (T := fun uu => Below wr.heap.size wr uu) (i := 24) (v := Value.bool true) rfl (by kernel_rfl) (by kernel_rfl) (by kernel_rfl) (fun _ _ _ h => by first | exact h | exact h.elim) (by decide) (fun _ h => h.elim) (fun _ h => h) (Sx.behind (by kernel_rfl) hm0.out) (Or.inl ⟨by rfl, fun uu hu => by go_simp⟩) ?_
            try go_simp
            refine wpAnyX_both (T := fun uu => Below wr.heap.size wr uu) (i := 25) (v := undef) rfl (by kernel_rfl) (by kernel_rfl) (by kernel_rfl) (fun _ _ _ h => by first | exact h | exact h.elim) (by decide) (fun _ h => h.elim) (fun _ h => h) (Sx.behind (by kernel_rfl) hm0.out) (Or.inr ⟨by rfl, rfl⟩) ?_
            try go_simp
            refine wpAnyX_both (T := fun uu => Below wr.heap.size wr uu) (i := 26) (v := undef) rfl (by kernel_rfl) (by kernel_rfl) (by kernel_rfl) (fun _ _ _ h => by first | exact h | exact h.elim) (by decide) (fun _ h => h.elim) (fun _ h => h) (Sx.behind (by kernel_rfl) hm0.out) (Or.inr ⟨by rfl, rfl⟩) ?_
            try go_simp
            refine wpAnyX_both (T := fun uu => Below wr.heap.size wr uu) (i := 27) (v := undef) rfl (by kernel_rfl) (by kernel_rfl) (by kernel_rfl) (fun _ _ _ h => by first | exact h | exact h.elim) (by decide) (fun _ h => h.elim) (fun _ h => h) (Sx.behind (by kernel_rfl) hm0.out) (Or.inr ⟨by rfl, rfl⟩) ?_
            try go_simp
            refine wpAnyX_both (T := fun uu => Below wr.heap.size wr uu) (i := 28) (v := undef) rfl (by kernel_rfl) (by kernel_rfl) (by kernel_rfl) (fun _ _ _ h => by first | exact h | exact h.elim) (by decide) (fun _ h => h.elim) (fun _ h => h) (Sx.behind (by kernel_rfl) hm0.out) (Or.inr ⟨by rfl, rfl⟩) ?_
            try go_simp
            refine wpAnyX_both (T := fun uu => Below wr.heap.size wr uu) (i := 29) (v := undef) rfl (by kernel_rfl) (by kernel_rfl) (by kernel_rfl) (fun _ _ _ h => by first | exact h | exact h.elim) (by decide) (fun _ h => h.elim) (fun _ h => h) (Sx.behind (by kernel_rfl) hm0.out) (Or.inr ⟨by rfl, rfl⟩) ?_
            try go_simp
            refine wpAnyX_both (T := fun uu => Below wr.heap.size wr uu) (i := 30) (v := undef) rfl (by kernel_rfl) (by kernel_rfl) (by kernel_rfl) (fun _ _ _ h => by first | exact h | exact h.elim) (by decide) (fun _ h => h.elim) (fun _ h => h) (Sx.behind (by kernel_rfl) hm0.out) (Or.inr ⟨by rfl, rfl⟩) ?_
            try go_simp
            refine wpAnyX_both (T := fun uu => Below wr.heap.size wr uu) (i := 31) (v := undef) rfl (by kernel_rfl) (by kernel_rfl) (by kernel_rfl) (fun _ _ _ h => by first | exact h | exact h.elim) (by decide) (fun _ h => h.elim) (fun _ h => h) (Sx.behind (by kernel_rfl) hm0.out) (Or.inr ⟨by rfl, rfl⟩) ?_
            try go_simp
            refine wpAnyX_both (T := fun uu => Below wr.heap.size wr uu) (i := 32) (v := undef) rfl (by kernel_rfl) (by kernel_rfl) (by kernel_rfl) (fun _ _ _ h => by first | exact h | exact h.elim) (by decide) (fun _ h => h.elim) (fun _ h => h) (Sx.behind (by kernel_rfl) hm0.out) (Or.inr ⟨by rfl, rfl⟩) ?_
            try go_simp
            refine wpAnyX_both (T := fun uu => Below wr.heap.size wr uu) (i := 33) (v := undef) rfl (by kernel_rfl) (by kernel_rfl) (by kernel_rfl) (fun _ _ _ h => by first | exact h | exact h.elim) (by decide) (fun _ h => h.elim) (fun _ h => h) (Sx.behind (by kernel_rfl) hm0.out) (Or.inr ⟨by rfl, rfl⟩) ?_
            try go_simp
            refine wpAnyX_both (T := fun uu => Below wr.heap.size wr uu) (i := 34) (v := undef) rfl (by kernel_rfl) (by kernel_rfl) (by kernel_rfl) (fun _ _ _ h => by first | exact h | exact h.elim) (by decide) (fun _ h => h.elim) (fun _ h => h) (Sx.behind (by kernel_rfl) hm0.out) (Or.inr ⟨by rfl, rfl⟩) ?_
            try go_simp
            refine wpAnyX_both (T := fun uu => Below wr.heap.size wr uu) (i := 35) (v := undef) rfl (by kernel_rfl) (by kernel_rfl) (by kernel_rfl) (fun _ _ _ h => by first | exact h | exact h.elim) (by decide) (fun _ h => h.elim) (fun _ h => h) (Sx.behind (by kernel_rfl) hm0.out) (Or.inr ⟨by rfl, rfl⟩) ?_
            try go_simp
            refine wpAnyX_both (T := fun uu => Below wr.heap.size wr uu) (i := 36) (v := Value.bool true) rfl (by kernel_rfl) (by kernel_rfl) (by kernel_rfl) (fun _ _ _ h => by first | exact h | exact h.elim) (by decide) (fun _ h => h.elim) (fun _ h => h) (Sx.behind (by kernel_rfl) hm0.out) (Or.inl ⟨by rfl, fun uu hu => by go_simp⟩) ?_
            try go_simp
            refine wpAnyX_both (T := fun uu => Below wr.heap.size wr uu) (i := 37) (v := Value.bool true) rfl (by kernel_rfl) (by kernel_rfl) (by kernel_rfl) (fun _ _ _ h => by first | exact h | exact h.elim) (by decide) (fun _ h => h.elim) (fun _ h => h) (Sx.behind (by kernel_rfl) hm0.out) (Or.inl ⟨by rfl, fun uu hu => by go_simp⟩) ?_
            try go_simp
            refine wpAnyX_both (T := fun uu => Below wr.heap.size wr uu) (i := 38) (v := undef) rfl (by kernel_rfl) (by kernel_rfl) (by kernel_rfl) (fun _ _ _ h => by first | exact h | exact h.elim) (by decide) (fun _ h => h.elim) (fun _ h => h) (Sx.behind (by kernel_rfl) hm0.out) (Or.inr ⟨by rfl, rfl⟩) ?_
            try go_simp
            refine wpAnyX_both (T := fun uu => Below wr.heap.size wr uu) (i := 39) (v := undef) rfl (by kernel_rfl) (by kernel_rfl) (by kernel_rfl) (fun _ _ _ h => by first | exact h | exact h.elim) (by decide) (fun _ h => h.elim) (fun _ h => h) (Sx.behind (by kernel_rfl) hm0.out) (Or.inr ⟨by rfl, rfl⟩) ?_
            try go_simp
            refine wpAnyX_both (T := fun uu => Below wr.heap.size wr uu) (i := 40) (v := undef) rfl (by kernel_rfl) (by kernel_rfl) (by kernel_rfl) (fun _ _ _ h => by first | exact h | exact h.elim) (by decide) (fun _ h => h.elim) (fun _ h => h) (Sx.behind (by kernel_rfl) hm0.out) (Or.inr ⟨by rfl, rfl⟩) ?_
            try go_simp
            refine wpAnyX_both (T := fun uu => Below wr.heap.size wr uu) (i := 41) (v := undef) rfl (by kernel_rfl) (by kernel_rfl) (by kernel_rfl) (fun _ _ _ h => by first | exact h | exact h.elim) (by decide) (fun _ h => h.elim) (fun _ h => h) (Sx.behind (by kernel_rfl) hm0.out) (Or.inr ⟨by rfl, rfl⟩) ?_
            try go_simp
            refine wpAnyX_both (T := fun uu => Below wr.heap.size wr uu) (i := 42) (v := undef) rfl (by kernel_rfl) (by kernel_rfl) (by kernel_rfl) (fun _ _ _ h => by first | exact h | exact h.elim) (by decide) (fun _ h => h.elim) (fun _ h => h) (Sx.behind (by kernel_rfl) hm0.out) (Or.inr ⟨by rfl, rfl⟩) ?_
            try go_simp
            refine wpAnyX_both (T := fun uu => Below wr.heap.size wr uu) (i := 43) (v := undef) rfl (by kernel_rfl) (by kernel_rfl) (by kernel_rfl) (fun _ _ _ h => by first | exact h | exact h.elim) (by decide) (fun _ h => h.elim) (fun _ h => h) (Sx.behind (by kernel_rfl) hm0.out) (Or.inr ⟨by rfl, rfl⟩) ?_
            try go_simp
            refine wpAnyX_both (T := fun uu => Below wr.heap.size wr uu) (i := 44) (v := undef) rfl (by kernel_rfl) (by kernel_rfl) (by kernel_rfl) (fun _ _ _ h => by first | exact h | exact h.elim) (by decide) (fun _ h => h.elim) (fun _ h => h) (Sx.behind (by kernel_rfl) hm0.out) (Or.inr ⟨by rfl, rfl⟩) ?_
            try go_simp
            refine wpAnyX_both (T := fun uu => Below wr.heap.size wr uu) (i := 45) (v := undef) rfl (by kernel_rfl) (by kernel_rfl) (by kernel_rfl) (fun _ _ _ h => by first | exact h | exact h.elim) (by decide) (fun _ h => h.elim) (fun _ h => h) (Sx.behind (by kernel_rfl) hm0.out) (Or.inr ⟨by rfl, rfl⟩) ?_
            try go_simp
            refine wpAnyX_both (T := fun uu => Below wr.heap.size wr uu) (i := 46) (v := undef) rfl (by kernel_rfl) (by kernel_rfl) (by kernel_rfl) (fun _ _ _ h => by first | exact h | exact h.elim) (by decide) (fun _ h => h.elim) (fun _ h => h) (Sx.behind (by kernel_rfl) hm0.out) (Or.inr ⟨by rfl, rfl⟩) ?_
            try go_simp
            refine wpAnyX_both (T := fun uu => Below wr.heap.size wr uu) (i := 47) (v := undef) rfl (by kernel_rfl) (by kernel_rfl) (by kernel_rfl) (fun _ _ _ h => by first | exact h | exact h.elim) (by decide) (fun _ h => h.elim) (fun _ h => h) (Sx.behind (by kernel_rfl) hm0.out) (Or.inr ⟨by rfl, rfl⟩) ?_
            try go_simp
            refine wpAnyX_both (T := fun uu => Below wr.heap.size wr uu) (i := 48) (v := undef) rfl (by kernel_rfl) (by kernel_rfl) (by kernel_rfl) (fun _ _ _ h => by first | exact h | exact h.elim) (by decide) (fun _ h => h.elim) (fun _ h => h) (Sx.behind (by kernel_rfl) hm0.out) (Or.inr ⟨by rfl, rfl⟩) ?_
            try go_simp
            refine wpAnyX_both (T := fun uu => Below wr.heap.size wr uu) (i := 49) (v := undef) rfl (by kernel_rfl) (by kernel_rfl) (by kernel_rfl) (fun _ _ _ h => by first | exact h | exact h.elim) (by decide) (fun _ h => h.elim) (fun _ h => h) (Sx.behind (by kernel_rfl) hm0.out) (Or.inr ⟨by rfl, rfl⟩) ?_
            try go_simp
            refine wpAnyX_both (T := fun uu => Below wr.heap.size wr uu) (i := 50) (v := Value.bool true) rfl (by kernel_rfl) (by kernel_rfl) (by kernel_rfl) (fun _ _ _ h => by first | exact h | exact h.elim) (by decide) (fun _ h => h.elim) (fun _ h => h) (Sx.behind (by kernel_rfl) hm0.out) (Or.inl ⟨by rfl, fun uu hu => by go_simp⟩) ?_
            try go_simp
            refine wpAnyX_done (by kernel_rfl) ?_ _
            have B9 := kide (HB.out.trans (hm0.out.mono HB.out.size))
            go_wp2_with fail
            go_ret
            exact ⟨by rw [HF.out]; rfl, B9.out⟩
        · have e1 : (v != v') = true := by simp [h1]
          have HF : Hid (V = false) := NO.out (by rw [← HZ2.out, decide_eq_false h1]; rfl)
          clear h1
          go_wp2_with fail
          refine wp_region_x (SA := fun _ => False) (SB := fun uu => Below wr.heap.size wr uu) (k := 999) (by kernel_rfl) ?_
          have hm0 : Hid (Below wr.heap.size wr wr.drew) := (Below.refl _ _).drew
          generalize wr.drew = m0 at *
          try go_simp
          refine wpAnyX_both (T := fun uu => Below wr.heap.size wr uu) (i := 0) (v := Value.slice (some ⟨b1, o1, none⟩) n c) rfl (by kernel_rfl) (by kernel_rfl) (by kernel_rfl) (fun _ _ _ h => by first | exact h | exact h.elim) (by decide) (fun _ h => h.elim) (fun _ h => h) (Sx.behind (by kernel_rfl) hm0.out) (Or.inl ⟨by rfl, fun uu hu => by go_simp⟩) ?_
          try go_simp
          refine wpAnyX_both (T := fun uu => Below wr.heap.size wr uu) (i := 1) (v := Value.int .i64 (k : Int)) rfl (by kernel_rfl) (by kernel_rfl) (by kernel_rfl) (fun _ _ _ h => by first | exact h | exact h.elim) (by decide) (fun _ h => h.elim) (fun _ h => h) (Sx.behind (by kernel_rfl) hm0.out) (Or.inl ⟨by rfl, fun uu hu => by go_simp⟩) ?_
          try go_simp
          refine wpAnyX_both (T := fun uu => Below wr.heap.size wr uu) (i := 2) (v := Value.pointer (some ⟨b1, o1 + k * 5, none⟩)) rfl (by kernel_rfl) (by kernel_rfl) (by kernel_rfl) (fun _ _ _ h => by first | exact h | exact h.elim) (by decide) (fun _ h => h.elim) (fun _ h => h) (Sx.behind (by kernel_rfl) hm0.out) (Or.inl ⟨by rfl, fun uu hu => by go_simp⟩) ?_
          try go_simp
          refine wpAnyX_both (T := fun uu => Below wr.heap.size wr uu) (i := 3) (v := Value.pointer (some ⟨b1, o1 + k * 5, none⟩)) rfl (by kernel_rfl) (by kernel_rfl) (by kernel_rfl) (fun _ _ _ h => by first | exact h | exact h.elim) (by decide) (fun _ h => h.elim) (fun _ h => h) (Sx.behind (by kernel_rfl) hm0.out) (Or.inl ⟨by rfl, fun uu hu => by go_simp⟩) ?_
          try go_simp
          refine wpAnyX_both (T := fun uu => Below wr.heap.size wr uu) (i := 4) (v := Value.int .i64 v) rfl (by kernel_rfl) (by kernel_rfl) (by kernel_rfl) (fun _ _ _ h => by first | exact h | exact h.elim) (by decide) (fun _ h => h.elim) (fun _ h => h) (Sx.behind (by kernel_rfl) hm0.out) (Or.inl ⟨by rfl, fun uu hu => by have e0 := (kcell hu b1 (o1 + k * 5) l1).trans p0; go_simp⟩) ?_
          try go_simp
          refine wpAnyX_both (T := fun uu => Below wr.heap.size wr uu) (i := 5) (v := Value.slice (some ⟨b2, o2, none⟩) n d) rfl (by kernel_rfl) (by kernel_rfl) (by kernel_rfl) (fun _ _ _ h => by first | exact h | exact h.elim) (by decide) (fun _ h => h.elim) (fun _ h => h) (Sx.behind (by kernel_rfl) hm0.out) (Or.inl ⟨by rfl, fun uu hu => by go_simp⟩) ?_
          try go_simp
          refine wpAnyX_both (T := fun uu => Below wr.heap.size wr uu) (i := 6) (v := Value.int .i64 (k : Int)) rfl (by kernel_rfl) (by kernel_rfl) (by kernel_rfl) (fun _ _ _ h => by first | exact h | exact h.elim) (by decide) (fun _ h => h.elim) (fun _ h => h) (Sx.behind (by kernel_rfl) hm0.out) (Or.inl ⟨by rfl, fun uu hu => by go_simp⟩) ?_
          try go_simp
          refine wpAnyX_both (T := fun uu => Below wr.heap.size wr uu) (i := 7) (v := Value.pointer (some ⟨b2, o2 + k * 5, none⟩)) rfl (by kernel_rfl) (by kernel_rfl) (by kernel_rfl) (fun _ _ _ h => by first | exact h | exact h.elim) (by decide) (fun _ h => h.elim) (fun _ h => h) (Sx.behind (by kernel_rfl) hm0.out) (Or.inl ⟨by rfl, fun uu hu => by go_simp⟩) ?_
          try go_simp
          refine wpAnyX_both (T := fun uu => Below wr.heap.size wr uu) (i := 8) (v := Value.pointer (some ⟨b2, o2 + k * 5, none⟩)) rfl (by kernel_rfl) (by kernel_rfl) (by kernel_rfl) (fun _ _ _ h => by first | exact h | exact h.elim) (by decide) (fun _ h => h.elim) (fun _ h => h) (Sx.behind (by kernel_rfl) hm0.out) (Or.inl ⟨by rfl, fun uu hu => by go_simp⟩) ?_
          try go_simp
          refine wpAnyX_both (T := fun uu => Below wr.heap.size wr uu) (i := 9) (v := Value.int .i64 v') rfl (by kernel_rfl) (by kernel_rfl) (by kernel_rfl) (fun _ _ _ h => by first | exact h | exact h.elim) (by decide) (fun _ h => h.elim) (fun _ h => h) (Sx.behind (by kernel_rfl) hm0.out) (Or.inl ⟨by rfl, fun uu hu => by have e0 := (kcell hu b2 (o2 + k * 5) l2).trans q0; go_simp⟩) ?_
          try go_simp
          refine wpAnyX_both (T := fun uu => Below wr.heap.size wr uu) (i := 10) (v := Value.bool true) rfl (by kernel_rfl) (by kernel_rfl) (by kernel_rfl) (fun _ _ _ h => by first | exact h | exact h.elim) (by decide) (fun _ h => h.elim) (fun _ h => h) (Sx.behind (by kernel_rfl) hm0.out) (Or.inl ⟨by rfl, fun uu hu => by go_simp⟩) ?_
          try go_simp
          refine wpAnyX_both (T := fun uu => Below wr.heap.size wr uu) (i := 11) (v := Value.bool true) rfl (by kernel_rfl) (by kernel_rfl) (by kernel_rfl) (fun _ _ _ h => by first | exact h | exact h.elim) (by decide) (fun _ h => h.elim) (fun _ h => h) (Sx.behind (by kernel_rfl) hm0.out) (Or.inl ⟨by rfl, fun uu hu => by go_simp⟩) ?_
          try go_simp
          refine wpAnyX_both (T := fun uu => Below wr.heap.size wr uu) (i := 12) (v := undef) rfl (by kernel_rfl) (by kernel_rfl) (by kernel_rfl) (fun _ _ _ h => by first | exact h | exact h.elim) (by decide) (fun _ h => h.elim) (fun _ h => h) (Sx.behind (by kernel_rfl) hm0.out) (Or.inr ⟨by rfl, rfl⟩) ?_
          try go_simp
          refine wpAnyX_both (T := fun uu => Below wr.heap.size wr uu) (i := 13) (v := undef) rfl (by kernel_rfl) (by kernel_rfl) (by kernel_rfl) (fun _ _ _ h => by first | exact h | exact h.elim) (by decide) (fun _ h => h.elim) (fun _ h => h) (Sx.behind (by kernel_rfl) hm0.out) (Or.inr ⟨by rfl, rfl⟩) ?_
          try go_simp
          refine wpAnyX_both (T := fun uu => Below wr.heap.size wr uu) (i := 14) (v := undef) rfl (by kernel_rfl) (by kernel_rfl) (by kernel_rfl) (fun _ _ _ h => by first | exact h | exact h.elim) (by decide) (fun _ h => h.elim) (fun _ h => h) (Sx.behind (by kernel_rfl) hm0.out) (Or.inr ⟨by rfl, rfl⟩) ?_
          try go_simp
          refine wpAnyX_both (T := fun uu => Below wr.heap.size wr uu) (i := 15) (v := undef) rfl (by kernel_rfl) (by kernel_rfl) (by kernel_rfl) (fun _ _ _ h => by first | exact h | exact h.elim) (by decide) (fun _ h => h.elim) (fun _ h => h) (Sx.behind (by kernel_rfl) hm0.out) (Or.inr ⟨by rfl, rfl⟩) ?_
          try go_simp
          refine wpAnyX_both (T := fun uu => Below wr.heap.size wr uu) (i := 16) (v := undef) rfl (by kernel_rfl) (by kernel_rfl) (by kernel_rfl) (fun _ _ _ h => by first | exact h | exact h.elim) (by decide) (fun _ h => h.elim) (fun _ h => h) (Sx.behind (by kernel_rfl) hm0.out) (Or.inr ⟨by rfl, rfl⟩) ?_
          try go_simp
          refine wpAnyX_both (T := fun uu => Below wr.heap.size wr uu) (i := 17) (v := undef) rfl (by kernel_rfl) (by kernel_rfl) (by kernel_rfl) (fun _ _ _ h => by first | exact h | exact h.elim) (by decide) (fun _ h => h.elim) (fun _ h => h) (Sx.behind (by kernel_rfl) hm0.out) (Or.inr ⟨by rfl, rfl⟩) ?_
          try go_simp
          refine wpAnyX_both (T := fun uu => Below wr.heap.size wr uu) (i := 18) (v := undef) rfl (by kernel_rfl) (by kernel_rfl) (by kernel_rfl) (fun _ _ _ h => by first | exact h | exact h.elim) (by decide) (fun _ h => h.elim) (fun _ h => h) (Sx.behind (by kernel_rfl) hm0.out) (Or.inr ⟨by rfl, rfl⟩) ?_
          try go_simp
          refine wpAnyX_both (T := fun uu => Below wr.heap.size wr uu) (i := 19) (v := undef) rfl (by kernel_rfl) (by kernel_rfl) (by kernel_rfl) (fun _ _ _ h => by first | exact h | exact h.elim) (by decide) (fun _ h => h.elim) (fun _ h => h) (Sx.behind (by kernel_rfl) hm0.out) (Or.inr ⟨by rfl, rfl⟩) ?_
          try go_simp
          refine wpAnyX_both (T := fun uu => Below wr.heap.size wr uu) (i := 20) (v := undef) rfl (by kernel_rfl) (by kernel_rfl) (by kernel_rfl) (fun _ _ _ h => by first | exact h | exact h.elim) (by decide) (fun _ h => h.elim) (fun _ h => h) (Sx.behind (by kernel_rfl) hm0.out) (Or.inr ⟨by rfl, rfl⟩) ?_
          try go_simp
          refine wpAnyX_both (T := fun uu => Below wr.heap.size wr uu) (i := 21) (v := undef) rfl (by kernel_rfl) (by kernel_rfl) (by kernel_rfl) (fun _ _ _ h => by first | exact h | exact h.elim) (by decide) (fun _ h => h.elim) (fun _ h => h) (Sx.behind (by kernel_rfl) hm0.out) (Or.inr ⟨by rfl, rfl⟩) ?_
          try go_simp
          refine wpAnyX_both (T := fun uu => Below wr.heap.size wr uu) (i := 22) (v := undef) rfl (by kernel_rfl) (by kernel_rfl) (by kernel_rfl) (fun _ _ _ h => by first | exact h | exact h.elim) (by decide) (fun _ h => h.elim) (fun _ h => h) (Sx.behind (by kernel_rfl) hm0.out) (Or.inr ⟨by rfl, rfl⟩) ?_
          try go_simp
          refine wpAnyX_both (T := fun uu => Below wr.heap.size wr uu) (i := 23) (v := Value.bool true) rfl (by kernel_rfl) (by kernel_rfl) (by kernel_rfl) (fun _ _ _ h => by first | exact h | exact h.elim) (by decide) (fun _ h => h.elim) (fun _ h => h) (Sx.behind (by kernel_rfl) hm0.out) (Or.inl ⟨by rfl, fun uu hu => by go_simp⟩) ?_
          try go_simp
          refine wpAnyX_both (T := fun uu => Below wr.heap.size wr uu) (i := 24) (v := Value.bool true) rfl (by kernel_rfl) (by kernel_rfl) (by kernel_rfl) (fun _ _ _ h => by first | exact h | exact h.elim) (by decide) (fun _ h => h.elim) (fun _ h => h) (Sx.behind (by kernel_rfl) hm0.out) (Or.inl ⟨by rfl, fun uu hu => by go_simp⟩) ?_
          try go_simp
          refine wpAnyX_both (T := fun uu => Below wr.heap.size wr uu) (i := 25) (v := undef) rfl (by kernel_rfl) (by kernel_rfl) (by kernel_rfl) (fun _ _ _ h => by first | exact h | exact h.elim) (by decide) (fun _ h => h.elim) (fun _ h => h) (Sx.behind (by kernel_rfl) hm0.out) (Or.inr ⟨by rfl, rfl⟩) ?_
          try go_simp
          refine wpAnyX_both (T := fun uu => Below wr.heap.size wr uu) (i := 26) (v := undef) rfl (by kernel_rfl) (by kernel_rfl) (by kernel_rfl) (fun _ _ _ h => by first | exact h | exact h.elim) (by decide) (fun _ h => h.elim) (fun _ h => h) (Sx.behind (by kernel_rfl) hm0.out) (Or.inr ⟨by rfl, rfl⟩) ?_
          try go_simp
          refine wpAnyX_both (T := fun uu => Below wr.heap.size wr uu) (i := 27) (v := undef) rfl (by kernel_rfl) (by kernel_rfl) (by kernel_rfl) (fun _ _ _ h => by first | exact h | exact h.elim) (by decide) (fun _ h => h.elim) (fun _ h => h) (Sx.behind (by kernel_rfl) hm0.out) (Or.inr ⟨by rfl, rfl⟩) ?_
          try go_simp
          refine wpAnyX_both (T := fun uu => Below wr.heap.size wr uu) (i := 28) (v := undef) rfl (by kernel_rfl) (by kernel_rfl) (by kernel_rfl) (fun _ _ _ h => by first | exact h | exact h.elim) (by decide) (fun _ h => h.elim) (fun _ h => h) (Sx.behind (by kernel_rfl) hm0.out) (Or.inr ⟨by rfl, rfl⟩) ?_
          try go_simp
          refine wpAnyX_both (T := fun uu => Below wr.heap.size wr uu) (i := 29) (v := undef) rfl (by kernel_rfl) (by kernel_rfl) (by kernel_rfl) (fun _ _ _ h => by first | exact h | exact h.elim) (by decide) (fun _ h => h.elim) (fun _ h => h) (Sx.behind (by kernel_rfl) hm0.out) (Or.inr ⟨by rfl, rfl⟩) ?_
          try go_simp
          refine wpAnyX_both (T := fun uu => Below wr.heap.size wr uu) (i := 30) (v := undef) rfl (by kernel_rfl) (by kernel_rfl) (by kernel_rfl) (fun _ _ _ h => by first | exact h | exact h.elim) (by decide) (fun _ h => h.elim) (fun _ h => h) (Sx.behind (by kernel_rfl) hm0.out) (Or.inr ⟨by rfl, rfl⟩) ?_
          try go_simp
          refine wpAnyX_both (T := fun uu => Below wr.heap.size wr uu) (i := 31) (v := undef) rfl (by kernel_rfl) (by kernel_rfl) (by kernel_rfl) (fun _ _ _ h => by first | exact h | exact h.elim) (by decide) (fun _ h => h.elim) (fun _ h => h) (Sx.behind (by kernel_rfl) hm0.out) (Or.inr ⟨by rfl, rfl⟩) ?_
          try go_simp
          refine wpAnyX_both (T := fun uu => Below wr.heap.size wr uu) (i := 32) (v := undef) rfl (by kernel_rfl) (by kernel_rfl) (by kernel_rfl) (fun _ _ _ h => by first | exact h | exact h.elim) (by decide) (fun _ h => h.elim) (fun _ h => h) (Sx.behind (by kernel_rfl) hm0.out) (Or.inr ⟨by rfl, rfl⟩) ?_
          try go_simp
          refine wpAnyX_both (T := fun uu => Below wr.heap.size wr uu) (i := 33) (v := undef) rfl (by kernel_rfl) (by kernel_rfl) (by kernel_rfl) (fun _ _ _ h => by first | exact h | exact h.elim) (by decide) (fun _ h => h.elim) (fun _ h => h) (Sx.behind (by kernel_rfl) hm0.out) (Or.inr ⟨by rfl, rfl⟩) ?_
          try go_simp
          refine wpAnyX_both (T := fun uu => Below wr.heap.size wr uu) (i := 34) (v := undef) rfl (by kernel_rfl) (by kernel_rfl) (by kernel_rfl) (fun _ _ _ h => by first | exact h | exact h.elim) (by decide) (fun _ h => h.elim) (fun _ h => h) (Sx.behind (by kernel_rfl) hm0.out) (Or.inr ⟨by rfl, rfl⟩) ?_
          try go_simp
          refine wpAnyX_both (T := fun uu => Below wr.heap.size wr uu) (i := 35) (v := undef) rfl (by kernel_rfl) (by kernel_rfl) (by kernel_rfl) (fun _ _ _ h => by first | exact h | exact h.elim) (by decide) (fun _ h => h.elim) (fun _ h => h) (Sx.behind (by kernel_rfl) hm0.out) (Or.inr ⟨by rfl, rfl⟩) ?_
          try go_simp
          refine wpAnyX_both (T := fun uu => Below wr.heap.size wr uu) (i := 36) (v := Value.bool true) rfl (by kernel_rfl) (by kernel_rfl) (by kernel_rfl) (fun _ _ _ h => by first | exact h | exact h.elim) (by decide) (fun _ h => h.elim) (fun _ h => h) (Sx.behind (by kernel_rfl) hm0.out) (Or.inl ⟨by rfl, fun uu hu => by go_simp⟩) ?_
          try go_simp
          refine wpAnyX_both (T := fun uu => Below wr.heap.size wr uu) (i := 37) (v := Value.bool true) rfl (by kernel_rfl) (by kernel_rfl) (by kernel_rfl) (fun _ _ _ h => by first | exact h | exact h.elim) (by decide) (fun _ h => h.elim) (fun _ h => h) (Sx.behind (by kernel_rfl) hm0.out) (Or.inl ⟨by rfl, fun uu hu => by go_simp⟩) ?_
          try go_simp
          refine wpAnyX_both (T := fun uu => Below wr.heap.size wr uu) (i := 38) (v := undef) rfl (by kernel_rfl) (by kernel_rfl) (by kernel_rfl) (fun _ _ _ h => by first | exact h | exact h.elim) (by decide) (fun _ h => h.elim) (fun _ h => h) (Sx.behind (by kernel_rfl) hm0.out) (Or.inr ⟨by rfl, rfl⟩) ?_
          try go_simp
          refine wpAnyX_both (T := fun uu => Below wr.heap.size wr uu) (i := 39) (v := undef) rfl (by kernel_rfl) (by kernel_rfl) (by kernel_rfl) (fun _ _ _ h => by first | exact h | exact h.elim) (by decide) (fun _ h => h.elim) (fun _ h => h) (Sx.behind (by kernel_rfl) hm0.out) (Or.inr ⟨by rfl, rfl⟩) ?_
          try go_simp
          refine wpAnyX_both (T := fun uu => Below wr.heap.size wr uu) (i := 40) (v := undef) rfl (by kernel_rfl) (by kernel_rfl) (by kernel_rfl) (fun _ _ _ h => by first | exact h | exact h.elim) (by decide) (fun _ h => h.elim) (fun _ h => h) (Sx.behind (by kernel_rfl) hm0.out) (Or.inr ⟨by rfl, rfl⟩) ?_
          try go_simp
          refine wpAnyX_both (T := fun uu => Below wr.heap.size wr uu) (i := 41) (v := undef) rfl (by kernel_rfl) (by kernel_rfl) (by kernel_rfl) (fun _ _ _ h => by first | exact h | exact h.elim) (by decide) (fun _ h => h.elim) (fun _ h => h) (Sx.behind (by kernel_rfl) hm0.out) (Or.inr ⟨by rfl, rfl⟩) ?_
          try go_simp
          refine wpAnyX_both (T := fun uu => Below wr.heap.size wr uu) (i := 42) (v := undef) rfl (by kernel_rfl) (by kernel_rfl) (by kernel_rfl) (fun _ _ _ h => by first | exact h | exact h.elim) (by decide) (fun _ h => h.elim) (fun _ h => h) (Sx.behind (by kernel_rfl) hm0.out) (Or.inr ⟨by rfl, rfl⟩) ?_
          try go_simp
          refine wpAnyX_both (T := fun uu => Below wr.heap.size wr uu) (i := 43) (v := undef) rfl (by kernel_rfl) (by kernel_rfl) (by kernel_rfl) (fun _ _ _ h => by first | exact h | exact h.elim) (by decide) (fun _ h => h.elim) (fun _ h => h) (Sx.behind (by kernel_rfl) hm0.out) (Or.inr ⟨by rfl, rfl⟩) ?_
          try go_simp
          refine wpAnyX_both (T := fun uu => Below wr.heap.size wr uu) (i := 44) (v := undef) rfl (by kernel_rfl) (by kernel_rfl) (by kernel_rfl) (fun _ _ _ h => by first | exact h | exact h.elim) (by decide) (fun _ h => h.elim) (fun _ h => h) (Sx.behind (by kernel_rfl) hm0.out) (Or.inr ⟨by rfl, rfl⟩) ?_
          try go_simp
          refine wpAnyX_both (T := fun uu => Below wr.heap.size wr uu) (i := 45) (v := undef) rfl (by kernel_rfl) (by kernel_rfl) (by kernel_rfl) (fun _ _ _ h => by first | exact h | exact h.elim) (by decide) (fun _ h => h.elim) (fun _ h => h) (Sx.behind (by kernel_rfl) hm0.out) (Or.inr ⟨by rfl, rfl⟩) ?_
          try go_simp
          refine wpAnyX_both (T := fun uu => Below wr.heap.size wr uu) (i := 46) (v := undef) rfl (by kernel_rfl) (by kernel_rfl) (by kernel_rfl) (fun _ _ _ h => by first | exact h | exact h.elim) (by decide) (fun _ h => h.elim) (fun _ h => h) (Sx.behind (by kernel_rfl) hm0.out) (Or.inr ⟨by rfl, rfl⟩) ?_
          try go_simp
          refine wpAnyX_both (T := fun uu => Below wr.heap.size wr uu) (i := 47) (v := undef) rfl (by kernel_rfl) (by kernel_rfl) (by kernel_rfl) (fun _ _ _ h => by first | exact h | exact h.elim) (by decide) (fun _ h => h.elim) (fun _ h => h) (Sx.behind (by kernel_rfl) hm0.out) (Or.inr ⟨by rfl, rfl⟩) ?_
          try go_simp
          refine wpAnyX_both (T := fun uu => Below wr.heap.size wr uu) (i := 48) (v := undef) rfl (by kernel_rfl) (by kernel_rfl) (by kernel_rfl) (fun _ _ _ h => by first | exact h | exact h.elim) (by decide) (fun _ h => h.elim) (fun _ h => h) (Sx.behind (by kernel_rfl) hm0.out) (Or.inr ⟨by rfl, rfl⟩) ?_
          try go_simp
          refine wpAnyX_both (T := fun uu => Below wr.heap.size wr uu) (i := 49) (v := undef) rfl (by kernel_rfl) (by kernel_rfl) (by kernel_rfl) (fun _ _ _ h => by first | exact h | exact h.elim) (by decide) (fun _ h => h.elim) (fun _ h => h) (Sx.behind (by kernel_rfl) hm0.out) (Or.inr ⟨by rfl, rfl⟩) ?_
          try go_simp
          refine wpAnyX_both (T := fun uu => Below wr.heap.size wr uu) (i := 50) (v := Value.bool true) rfl (by kernel_rfl) (by kernel_rfl) (by kernel_rfl) (fun _ _ _ h => by first | exact h | exact h.elim) (by decide) (fun _ h => h.elim) (fun _ h => h) (Sx.behind (by kernel_rfl) hm0.out) (Or.inl ⟨by rfl, fun uu hu => by go_simp⟩) ?_
          try go_simp
          refine wpAnyX_done (by kernel_rfl) ?_ _
          have B9 := kide (HB.out.trans (hm0.out.mono HB.out.size))
          go_wp2_with fail
          go_ret
          exact ⟨by rw [HF.out]; rfl, B9.out⟩
      · have i0 : ¬ (k : Int) < (n : Int) := by omega
        have HF : Hid (V = true) := by
          show _ = _
          rw [← HV.out]
          have h1 := ht
          rw [List.take_of_length_le (by rw [List.length_zip, List.length_map, List.length_map, HN.out, HM.out]; omega)] at h1
          exact h1
        clear hbel ht hk hlt
        go_wp2_with fail
        go_ret
        exact ⟨by rw [HF.out]; rfl, HB.out⟩
  · have hne : ((n : Int) != (m : Int)) = true := by simp; omega
    rw [decide_eq_false hnm, Bool.false_and] at hV
    subst hV
    clear hnm
    go_enter Tryz.func15, Tryz.ntmps15
    go_wp2_with fail
    go_ret
    exact ⟨rfl, Below.refl _ _⟩
end Go.Proofs.YtckidgpopbpagaaGreatDoor
