/- Touching: rows of numbers asked, literals picked by their numbers. -/
import Derived.Test.YtheglnkndjheaaaGreatDoorZIA
import Derived.Test.YtheglnkndjheaaaGreatDoorEJ
import Derived.Test.YtheglnkndjheaaaGreatDoorZRX
import Derived.Handy
namespace Go.Proofs.YtheglnkndjheaaaGreatDoor
set_option linter.unusedVariables false
set_option linter.unusedSimpArgs false
open Go.RowKit

set_option maxHeartbeats 1000000 in
theorem indexI_any (x : Int) (a : Option Addr) (c n : Nat) (ks : List Int) (w : World) (hr : RdI w a ks) (hn : ks.length = n) :
    Calls Tryz.prog 61 #[.slice a n c, .int .i64 x] w fun e w' => ∃ r : Int, e = .returned (.int .i64 r) ∧ decide (0 ≤ r) = decide (x ∈ ks) ∧ w' = w := by
  have HN := kide hn
  have HL : Hid (n ≤ 1048576) := by show _ ≤ _; rw [← hn]; exact hr.1
  obtain ⟨V, hV⟩ : ∃ V, decide (x ∈ ks) = V := ⟨_, rfl⟩
  rw [hV]
  have HV := kide hV
  clear hn hV
  go_enter Tryz.func61, Tryz.ntmps61
  go_wp2_with fail
  go_loopw [8] (fun i wr => ∃ k : Nat, k ≤ n ∧ i = .int .i64 (k : Int) ∧ (∀ j y, j < k → ks[j]? = some y → y ≠ x) ∧ wr = w) (fun i _ => n - (intOf i).toNat)
  case atStart => exact ⟨0, Nat.zero_le _, rfl, (fun j y h => by omega), rfl⟩
  case round =>
    obtain ⟨k, hk, rfl, hz, hw⟩ := hrel
    obtain rfl := hw.symm
    have HZ := kide hz
    by_cases hlt : k < n
    · obtain ⟨-, -, h | ⟨b, o, rfl, hc⟩⟩ := hr
      · have := HN.out; rw [h] at this; simp at this; omega
      obtain ⟨y, gy⟩ : ∃ y, ks[k]? = some y := ⟨ks[k]'(by rw [HN.out]; exact hlt), List.getElem?_eq_getElem _⟩
      have p0 := hc k (by rw [HN.out]; exact hlt)
      rw [show ks.getD k 0 = y by rw [List.getD_eq_getElem?_getD, gy]; rfl] at p0
      have HG := kide gy
      have i0 : (k : Int) < (n : Int) := by omega
      have HKL := kide hlt
      clear hc hz gy hk hlt hw
      by_cases hxy : x = y
      · have e1 : (x == y) = true := by simp [hxy]
        have HM : Hid (V = true) := HV.out.symm.trans (decide_eq_true (by rw [hxy]; exact List.mem_of_getElem? HG.out))
        clear hxy
        go_wp2_with fail
        go_ret
        exact ⟨_, rfl, by rw [HM.out]; exact decide_eq_true (by omega), rfl⟩
      · have e1 : (x == y) = false := by simp [hxy]
        have HX := kide hxy
        clear hxy
        go_wp2_with fail
        have t9 : wrap64 ((k : Int) + 1) = ((k + 1 : Nat) : Int) := by
          have := HKL.out
          have := HL.out
          unfold wrap64
          omega
        rw [t9]
        clear t9
        go_roundw
        case rel =>
          refine ⟨k + 1, HKL.out, rfl, fun j z hj hz => ?_, by first | rfl | trivial⟩
          by_cases hjk : j = k
          · subst hjk
            rw [HG.out] at hz
            cases hz
            exact fun e => HX.out e.symm
          · exact HZ.out j z (by omega) hz
        case measure => have := HKL.out; simp only [intOf, Int.toNat_natCast]; omega
    · have i0 : ¬ (k : Int) < (n : Int) := by omega
      have HM : Hid (V = false) := HV.out.symm.trans (decide_eq_false (fun hm => by
        obtain ⟨j, hj⟩ := List.getElem?_of_mem hm
        have := (List.getElem?_eq_some_iff.1 hj).1
        exact HZ.out j x (by have := HN.out; omega) hj rfl))
      clear hz hlt hk hw
      go_wp2_with fail
      go_ret
      exact ⟨-1, rfl, by rw [HM.out]; rfl, rfl⟩

theorem containsI_any (x : Int) (a : Option Addr) (c n : Nat) (ks : List Int) (w : World) (hr : RdI w a ks) (hn : ks.length = n) :
    Calls Tryz.prog 43 #[.slice a n c, .int .i64 x] w fun e w' => e = .returned (.bool (decide (x ∈ ks))) ∧ w' = w := by
  have HI := kide (indexI_any x a c n ks w hr hn)
  generalize decide (x ∈ ks) = Z at *
  clear hr hn
  go_enter Tryz.func43, Tryz.ntmps43
  go_wp2_with fail
  refine Calls.mono HI.out ?_
  rintro e w1 ⟨r, rfl, hr, hw⟩
  obtain rfl := hw.symm
  have HR := kide hr
  clear hr hw
  go_wp2_with fail
  go_ret
  exact ⟨ret_bool HR.out, rfl⟩

/-- The closure that Touching makes. -/
theorem touF_any (a : Option Addr) (c n bv : Nat) (ks : List Int) (x : Lg) (w : World) (hc : w.cell? ⟨bv, 0, none⟩ = some (.slice a n c)) (hr : RdI w a ks) (hn : ks.length = n) :
    Calls Tryz.prog 42 #[x.val, .pointer (some ⟨bv, 0, none⟩)] w fun e w' => e = .returned (.bool (decide (x.id ∈ ks))) ∧ Below w.heap.size w w' := by
  have hbx : Below w.heap.size w (w.alloc (Obj.cells #[Value.int .i64 x.id, Value.bool x.eq, Value.slice x.sa x.ss.length x.sc, Value.slice x.ta x.ts.length x.tc] 62)) := (Below.refl _ _).alloc (Nat.le_refl _) _
  have HC := kide (containsI_any x.id a c n ks _ (hr.later hbx) hn)
  have c1 := (kcell hbx _ _ (block_lt_of_cell hc)).trans hc
  have HBX := kide hbx
  generalize decide (x.id ∈ ks) = V at *
  clear hbx hr hn
  obtain ⟨id, q, ss, sa, sc, ts, ta, tc⟩ := x
  simp only [Lg.val] at *
  generalize ss.length = sn at *
  generalize ts.length = tn at *
  go_enter Tryz.func42, Tryz.ntmps42
  go_wp2_with fail
  refine Calls.mono HC.out ?_
  rintro e w3 ⟨rfl, hw3⟩
  obtain rfl := hw3.symm
  clear hw3
  go_wp2_with fail
  go_ret
  exact ⟨rfl, HBX.out⟩

set_option maxHeartbeats 1000000 in
/-- Whether two rows of numbers are the same. -/
theorem equalI_any (a b : Option Addr) (c d n m : Nat) (xs ys : List Int) (w : World) (hr : RdI w a xs) (hn : xs.length = n) (hs : RdI w b ys) (hm : ys.length = m) :
    Calls Tryz.prog 44 #[.slice a n c, .slice b m d] w fun e w' => e = .returned (.bool (decide (xs = ys))) ∧ Below w.heap.size w w' := by
  have HN := kide hn
  have HM := kide hm
  have HL : Hid (n ≤ 1048576) := by show _ ≤ _; rw [← hn]; exact hr.1
  clear hn hm
  by_cases hnm : n = m
  · subst hnm
    have hne : ((n : Int) != (n : Int)) = false := by simp
    obtain ⟨V, hV⟩ : ∃ V, decide (xs = ys) = V := ⟨_, rfl⟩
    rw [hV]
    have HV := kide hV
    clear hV
    go_enter Tryz.func44, Tryz.ntmps44
    go_wp2_with fail
    clear hne
    go_loopw [13] (fun i wr => ∃ k : Nat, k ≤ n ∧ i = .int .i64 (k : Int) ∧ xs.take k = ys.take k ∧ Below w.heap.size w wr) (fun i _ => n - (intOf i).toNat)
    case atStart => exact ⟨0, Nat.zero_le _, rfl, rfl, Below.refl _ _⟩
    case round =>
      obtain ⟨k, hk, rfl, ht, hbel⟩ := hrel
      have HT := kide ht
      have HB := kide hbel
      by_cases hlt : k < n
      · obtain ⟨-, -, h | ⟨b1, o1, rfl, hc1⟩⟩ := hr.later hbel
        · have := HN.out; rw [h] at this; simp at this; omega
        obtain ⟨-, -, h | ⟨b2, o2, rfl, hc2⟩⟩ := hs.later hbel
        · have := HM.out; rw [h] at this; simp at this; omega
        obtain ⟨x, gx⟩ : ∃ y, xs[k]? = some y := ⟨xs[k]'(by rw [HN.out]; exact hlt), List.getElem?_eq_getElem _⟩
        obtain ⟨y, gy⟩ : ∃ y, ys[k]? = some y := ⟨ys[k]'(by rw [HM.out]; exact hlt), List.getElem?_eq_getElem _⟩
        have p0 := hc1 k (by rw [HN.out]; exact hlt)
        have q0 := hc2 k (by rw [HM.out]; exact hlt)
        rw [show xs.getD k 0 = x by rw [List.getD_eq_getElem?_getD, gx]; rfl] at p0
        rw [show ys.getD k 0 = y by rw [List.getD_eq_getElem?_getD, gy]; rfl] at q0
        have HGX := kide gx
        have HGY := kide gy
        have i0 : (k : Int) < (n : Int) := by omega
        have HKL := kide hlt
        clear hc1 hc2 gx gy hbel ht hk hlt
        by_cases hxy : x = y
        · have e1 : (x != y) = false := by simp [hxy]
          have HX := kide hxy
          clear hxy
          go_wp2_with fail
          go_quiet (fail)
          go_wp2_with fail
          have t9 : wrap64 ((k : Int) + 1) = ((k + 1 : Nat) : Int) := by
            have := HKL.out
            have := HL.out
            unfold wrap64
            omega
          rw [t9]
          clear t9
          go_roundw
          case rel => exact ⟨k + 1, HKL.out, rfl, by rw [List.take_add_one, List.take_add_one, HT.out, HGX.out, HGY.out, HX.out], below_drewN HB.out _⟩
          case measure => have := HKL.out; simp only [intOf, Int.toNat_natCast]; omega
        · have e1 : (x != y) = true := by simp [hxy]
          have HF : Hid (V = false) := by
            show _ = _
            rw [← HV.out]
            exact decide_eq_false (fun e => by
              have h1 := HGX.out
              rw [e, HGY.out] at h1
              cases h1
              exact hxy rfl)
          clear hxy
          go_wp2_with fail
          go_quiet (fail)
          go_wp2_with fail
          go_ret
          exact ⟨by rw [HF.out]; rfl, below_drewN HB.out _⟩
      · have i0 : ¬ (k : Int) < (n : Int) := by omega
        have HF : Hid (V = true) := by
          show _ = _
          rw [← HV.out]
          refine decide_eq_true ?_
          have h1 := ht
          rw [List.take_of_length_le (by rw [HN.out]; omega), List.take_of_length_le (by rw [HM.out]; omega)] at h1
          exact h1
        clear hbel ht hk hlt
        go_wp2_with fail
        go_ret
        exact ⟨by rw [HF.out]; rfl, HB.out⟩
  · have hne : ((n : Int) != (m : Int)) = true := by simp; omega
    have HF : Hid (decide (xs = ys) = false) := decide_eq_false (fun e => hnm (by rw [← HN.out, ← HM.out, e]))
    rw [HF.out]
    clear hnm
    go_enter Tryz.func44, Tryz.ntmps44
    go_wp2_with fail
    go_ret
    exact ⟨rfl, Below.refl _ _⟩

theorem RdL.at {w : World} {a : Option Addr} {xs : List Lg} (h : RdL w a xs) {k : Nat} {x : Lg} (hx : xs[k]? = some x) : ∃ b o, a = some ⟨b, o, none⟩ ∧ LgAt w b (o + k * 4) x := by
  obtain ⟨-, h | ⟨b, o, e, hc⟩⟩ := h
  · rw [h] at hx; simp at hx
  · exact ⟨b, o, e, hc k x hx⟩

theorem filter_take {p : Lg → Bool} {xs : List Lg} {k : Nat} {x : Lg} (h : xs[k]? = some x) : (xs.take (k + 1)).filter p = (xs.take k).filter p ++ (if p x = true then [x] else []) := by
  rw [List.take_add_one, h, List.filter_append]
  cases hv : p x <;> simp [hv]

set_option maxHeartbeats 2000000 in
set_option maxRecDepth 100000 in
theorem filtered_any (b : Option Addr) (c2 n bv : Nat) (xs : List Lg) (p : Lg → Bool) (w : World) (hk : ∀ u x, Below w.heap.size w u → x ∈ xs → Calls Tryz.prog 42 #[x.val, .pointer (some ⟨bv, 0, none⟩)] u fun e w' => e = .returned (.bool (p x)) ∧ Below u.heap.size u w') (hs : RdL w b xs) (hn : xs.length = n) :
    Calls Tryz.prog 41 #[.slice b n c2, .func (.func 42) #[] #[.pointer (some ⟨bv, 0, none⟩)]] w fun e w' => ∃ v, e = .returned v ∧ OL4 w' w.heap.size v (xs.filter p) ∧ Below w.heap.size w w' := by
  have hn2 : n ≤ 1048576 := by rw [← hn]; exact hs.1
  have HS := kide hs
  have HN := kide hn
  have HK := kide hk
  clear hk hs hn
  go_enter Tryz.func41, Tryz.ntmps41
  go_wp2_with fail
  go_loopw [5, 10] (fun o q wr => ∃ k : Nat, k ≤ n ∧ q = .int .i64 (k : Int) ∧ OL4 wr w.heap.size o ((xs.take k).filter p) ∧ Below w.heap.size w wr) (fun _ q _ => n - (intOf q).toNat)
  case atStart => exact ⟨0, Nat.zero_le _, rfl, OL4.nil _ _, Below.refl _ _⟩
  case round =>
    obtain ⟨k, hk, rfl, how, hb⟩ := hrel
    have HO := kide how
    have HB := kide hb
    clear how
    by_cases hlt : k < n
    · have i0 : (k : Int) < (n : Int) := by omega
      obtain ⟨x, gx⟩ : ∃ x, xs[k]? = some x := ⟨xs[k]'(by rw [HN.out]; exact hlt), List.getElem?_eq_getElem _⟩
      obtain ⟨b3, o3, rfl, ⟨p0, p1, p2, p3⟩, r1, r2, r3⟩ := (HS.out.later hb).at gx
      have hbx : Below wr.heap.size wr (wr.alloc (Obj.cells #[Value.int .i64 x.id, Value.bool x.eq, Value.slice x.sa x.ss.length x.sc, Value.slice x.ta x.ts.length x.tc] 62)) := (Below.refl _ _).alloc (Nat.le_refl _) _
      have HBX := kide (hb.trans (hbx.mono hb.size))
      have HOX := kide (HO.out.later hbx)
      have HC := kide (HK.out _ x HBX.out (List.mem_of_getElem? gx))
      have HST := kide (filter_take (p := p) gx)
      have S0 := kide (St.start wr (Obj.cells #[Value.int .i64 x.id, Value.bool x.eq, Value.slice x.sa x.ss.length x.sc, Value.slice x.ta x.ts.length x.tc] 62))
      have hul : ((xs.take k).filter p).length ≤ 1073741824 := by have h1 := List.length_filter_le p (xs.take k); have h2 := List.length_take_le k xs; omega
      generalize (xs.take k).filter p = rs at *
      generalize hpx : p x = V at *
      have HY : Hid (∃ y : Lg, y = x) := ⟨x, rfl⟩
      obtain ⟨y, hy⟩ := HY.out
      have y1 : x.id = y.id := by rw [hy]
      have y2 : x.eq = y.eq := by rw [hy]
      have y3 : Value.slice x.sa x.ss.length x.sc = .slice y.sa y.ss.length y.sc := by rw [hy]
      have y4 : Value.slice x.ta x.ts.length x.tc = .slice y.ta y.ts.length y.tc := by rw [hy]
      have e1 := kide y1
      have e2 := kide y2
      have e3 := kide y3
      have e4 := kide y4
      have HY2 := kide hy
      rw [← hy] at HST
      clear y1 y2 y3 y4 hy HY gx r1 r2 r3 hbx hb hpx HO
      obtain ⟨id, q, ss, sa, sc, ts, ta, tc⟩ := x
      simp only [Lg.val] at *
      generalize ss.length = sn at *
      generalize ts.length = tn at *
      cases V with
      | true =>
        have HF2 := HST.out
        rw [if_pos rfl] at HF2
        have HF3 := kide HF2
        clear HF2 HST
        go_wp2_with fail
        refine Calls.mono HC.out ?_
        rintro e w3 ⟨rfl, hb3⟩
        have B3 := kide (HBX.out.trans (hb3.mono HBX.out.size))
        have O3 := kide (HOX.out.later hb3)
        have S3 := kide (S0.out.next hb3)
        have c0 := S3.out.cell 0
        have c1 := S3.out.cell 1
        have c2' := S3.out.cell 2
        have c3 := S3.out.cell 3
        simp at c0 c1 c2' c3
        have hsz := B3.out.size
        clear hb3 HC
        go_wp2_with (at_builtin; refine wpList_appL4 rfl _ _ rfl w.heap.size _ rs y rfl (World.ownsRow.alloc O3.out _) _ rfl (by rw [← e1.out]; simp) (by rw [← e2.out]; simp) (by rw [← e3.out]; simp) (by rw [← e4.out]; simp) hul (by simp; omega) ?_)
        intro v7 w7 hos hg
        have B7 := kide (Below.grown (B3.out.alloc hsz (Obj.cells #[Value.int .i64 id, Value.bool q, Value.slice sa sn sc, Value.slice ta tn tc] 62)) hg (by simp; omega) (fun j hj => (O3.out.lt hj).1))
        have O7 := kide hos
        clear hos hg c0 c1 c2' c3 p0 p1 p2 p3
        go_wp2_with fail
        go_roundw
        case rel => exact ⟨k + 1, by omega, by go_num, by rw [HF3.out]; exact O7.out, B7.out⟩
        case measure => simp [intOf]; omega
      | false =>
        have HF2 := HST.out
        rw [if_neg (by simp), List.append_nil] at HF2
        have HF3 := kide HF2
        clear HF2 HST
        go_wp2_with fail
        refine Calls.mono HC.out ?_
        rintro e w3 ⟨rfl, hb3⟩
        have B3 := kide (HBX.out.trans (hb3.mono HBX.out.size))
        have O3 := kide (HOX.out.later hb3)
        clear hb3 HC
        go_wp2_with fail
        go_roundw
        case rel => exact ⟨k + 1, by omega, by go_num, by rw [HF3.out]; exact O3.out, B3.out⟩
        case measure => simp [intOf]; omega
    · have hfin : xs.take k = xs := List.take_of_length_le (by rw [HN.out]; omega)
      rw [hfin] at HO
      clear hb hfin
      go_wp2_with fail
      go_ret
      exact ⟨_, rfl, HO.out, HB.out⟩

theorem OW.nils (w : World) (B : Nat) : OW w B (.slice none 0 0) [] := ⟨rfl, .inl ⟨rfl, rfl⟩⟩

theorem ids_take {xs : List Lg} {k : Nat} {x : Lg} (h : xs[k]? = some x) : (xs.take (k + 1)).map Lg.id = (xs.take k).map Lg.id ++ [x.id] := by
  rw [List.take_add_one, h, List.map_append]
  rfl

set_option maxHeartbeats 2000000 in
set_option maxRecDepth 100000 in
theorem idsOf_any (b : Option Addr) (c2 n : Nat) (xs : List Lg) (w : World) (hs : RdL w b xs) (hn : xs.length = n) :
    Calls Tryz.prog 34 #[.slice b n c2] w fun e w' => ∃ v, e = .returned v ∧ OW w' w.heap.size v (xs.map Lg.id) ∧ Below w.heap.size w w' := by
  have hn2 : n ≤ 1048576 := by rw [← hn]; exact hs.1
  have HS := kide hs
  have HN := kide hn
  clear hs hn
  go_enter Tryz.func34, Tryz.ntmps34
  go_wp2_with fail
  go_loopw [3, 8] (fun o q wr => ∃ k : Nat, k ≤ n ∧ q = .int .i64 (k : Int) ∧ OW wr w.heap.size o ((xs.take k).map Lg.id) ∧ Below w.heap.size w wr) (fun _ q _ => n - (intOf q).toNat)
  case atStart => exact ⟨0, Nat.zero_le _, rfl, OW.nils _ _, Below.refl _ _⟩
  case round =>
    obtain ⟨k, hk, rfl, how, hb⟩ := hrel
    have HO := kide how
    have HB := kide hb
    clear how
    by_cases hlt : k < n
    · have i0 : (k : Int) < (n : Int) := by omega
      obtain ⟨x, gx⟩ : ∃ x, xs[k]? = some x := ⟨xs[k]'(by rw [HN.out]; exact hlt), List.getElem?_eq_getElem _⟩
      obtain ⟨b3, o3, rfl, ⟨p0, p1, p2, p3⟩, r1, r2, r3⟩ := (HS.out.later hb).at gx
      have hbx : Below wr.heap.size wr (wr.alloc (Obj.cells #[Value.int .i64 x.id, Value.bool x.eq, Value.slice x.sa x.ss.length x.sc, Value.slice x.ta x.ts.length x.tc] 62)) := (Below.refl _ _).alloc (Nat.le_refl _) _
      have B3 := kide (hb.trans (hbx.mono hb.size))
      have O3 := kide (HO.out.later hbx)
      have HST := kide (ids_take gx)
      have hul : ((xs.take k).map Lg.id).length ≤ 1073741824 := by rw [List.length_map]; have h2 := List.length_take_le k xs; omega
      have hsz := B3.out.size
      generalize (xs.take k).map Lg.id = rs at *
      obtain ⟨id, q, ss, sa, sc, ts, ta, tc⟩ := x
      simp only [] at *
      generalize ss.length = sn at *
      generalize ts.length = tn at *
      clear gx r1 r2 r3 hbx hb HO
      go_wp2_with (at_builtin; refine wpList_appW rfl _ _ rfl w.heap.size _ rs id rfl (World.ownsRow.alloc O3.out _) _ rfl (by simp) hul (by simp at hsz ⊢; omega) ?_)
      intro v7 w7 hos hg
      have B7 := kide (Below.grown (B3.out.alloc hsz (Obj.cells #[Value.int .i64 id] 2)) hg (by simp at hsz ⊢; omega) (fun j hj => (O3.out.lt hj).1))
      have O7 := kide hos
      clear hos hg p0 p1 p2 p3
      go_wp2_with fail
      go_roundw
      case rel => exact ⟨k + 1, by omega, by go_num, by rw [HST.out]; exact O7.out, B7.out⟩
      case measure => simp [intOf]; omega
    · have hfin : xs.take k = xs := List.take_of_length_le (by rw [HN.out]; omega)
      rw [hfin] at HO
      clear hb hfin
      go_wp2_with fail
      go_ret
      exact ⟨_, rfl, HO.out, HB.out⟩

end Go.Proofs.YtheglnkndjheaaaGreatDoor
