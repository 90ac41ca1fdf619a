/- Several texts in one. -/
import Derived.Test.YtpmpipcpifmncaaZMA
import Derived.Test.YtpmpipcpifmncaaKH
import Derived.Test.YtpmpipcpifmncaaKJ
import Derived.Test.YtpmpipcpifmncaaKI
import Derived.Test.YtpmpipcpifmncaaZMB

/- Values that are merged: plainly; what the given Merge answers. -/
namespace Go.Proofs.Ytpmpipcpifmncaa
set_option linter.unusedVariables false
set_option linter.unusedSimpArgs false
open Go.RowKit

/-- Do numbers rise from behind last to ahead of n? -/
def risP (n : Int) : Int → List Int → Bool
  | _, [] => true
  | l, k :: t => decide (l < k) && decide (k < n) && risP n k t
theorem risP_step {W last : Int} {ks : List Int} {j : Nat} (h : j < ks.length) : risP W last (ks.drop j) = (decide (last < ks.getD j 0) && decide (ks.getD j 0 < W) && risP W (ks.getD j 0) (ks.drop (j + 1))) := by
  rw [List.drop_eq_getElem_cons h, risP]
  simp [List.getD, h]
theorem risP_in {n : Int} {l : Int} {ks : List Int} (h : risP n l ks = true) : ∀ k ∈ ks, l < k ∧ k < n := by
  induction ks generalizing l with
  | nil => simp
  | cons x t ih =>
    rw [risP] at h
    simp only [Bool.and_eq_true, decide_eq_true_eq] at h
    intro k hk
    rcases List.mem_cons.1 hk with rfl | hk
    · exact h.1
    · have := ih h.2 k hk
      omega

abbrev Wq := Int × List Nat
def okM (ds : List Dc) (A B : List Wq) (vs : List Int) : Bool := valR ds A && valR ds B && risP ds.length (-1) vs
def mrgL (n : Nat) (A B : List Wq) (vs : List Int) : List Wq := (List.range n).map fun (v : Nat) => if (v : Int) ∈ vs then B.getD v (0, []) else A.getD v (0, [])
def mrgR (ds : List Dc) (A B : List Wq) (vs : List Int) : List Wq × Bool := if okM ds A B vs = true then (mrgL ds.length A B vs, true) else ([], false)

theorem mrgL_snoc (k : Nat) (A B : List Wq) (vs : List Int) : mrgL (k + 1) A B vs = mrgL k A B vs ++ [if (k : Int) ∈ vs then B.getD k (0, []) else A.getD k (0, [])] := by simp [mrgL, List.range_succ]
theorem mrgR_no1 {ds : List Dc} {A B : List Wq} {vs : List Int} (h : valR ds A = false) : mrgR ds A B vs = ([], false) := by simp [mrgR, okM, h]
theorem mrgR_no2 {ds : List Dc} {A B : List Wq} {vs : List Int} (h : valR ds B = false) : mrgR ds A B vs = ([], false) := by simp [mrgR, okM, h]
theorem mrgR_no3 {ds : List Dc} {A B : List Wq} {vs : List Int} (h : risP ds.length (-1) vs = false) : mrgR ds A B vs = ([], false) := by simp [mrgR, okM, h]
theorem mrgR_yes {ds : List Dc} {A B : List Wq} {vs : List Int} (h1 : valR ds A = true) (h2 : valR ds B = true) (h3 : risP ds.length (-1) vs = true) : mrgR ds A B vs = (mrgL ds.length A B vs, true) := by simp [mrgR, okM, h1, h2, h3]

theorem valR_pos {ds : List Dc} {xs : List Bw} (h : valR ds (xs.map Bw.ct) = true) : ds.length ≤ 60 ∧ xs.length = ds.length ∧ ∀ x ∈ xs, 0 < x.ws.length := by
  obtain ⟨h1, h2, h3⟩ := valR_iff.1 h
  refine ⟨(dclR_iff.1 h1).1, by simpa using h2, fun x hx => ?_⟩
  obtain ⟨i, hi, e⟩ := List.mem_iff_getElem.1 hx
  have h4 := (h3 i (by simpa using hi)).1
  have e2 : (xs.map Bw.ct).getD i (0, []) = x.ct := by simp [List.getD, hi, e]
  rw [e2] at h4
  replace h4 : rightB x.wd x.ws = true := h4
  simp only [rightB, Bool.and_eq_true, decide_eq_true_eq] at h4
  have h5 := h4.1.1
  simp [wOk] at h5
  have h6 := h4.1.2
  omega

theorem l1Has_any (a : Option Addr) (c : Nat) (ks : List Int) (x : Int) (w : World) (hr : RdI w a ks) :
    Calls Try.prog 63 #[.slice a ks.length c, .int .i64 x] w fun e w' => e = .returned (.bool (decide (x ∈ ks))) ∧ w' = w := by
  have hlen := hr.1
  go_enter Try.func63, Try.ntmps63
  go_wp2_with fail
  go_loop [5] (fun i => ∃ k : Nat, k ≤ ks.length ∧ i = .int .i64 (k : Int) ∧ ∀ j, j < k → ks.getD j 0 ≠ x) (fun i => ks.length - (intOf i).toNat)
  case atStart => exact ⟨0, Nat.zero_le _, rfl, fun j h => by omega⟩
  case round =>
    obtain ⟨k, hk, rfl, hz⟩ := hrel
    have HZ := kide hz
    by_cases hlt : k < ks.length
    · obtain ⟨-, -, h | ⟨b, o, rfl, hc⟩⟩ := hr
      · subst h; simp at hlt
      have e0 := hc k hlt
      have hmem : ks.getD k 0 ∈ ks := by simp [List.getD, hlt]
      generalize hy : ks.getD k 0 = y at *
      have HY := kide hy
      have i0 : (k : Int) < (ks.length : Int) := by omega
      clear hc hz hy
      by_cases hxy : y = x
      · have e1 : (y == x) = true := by simp [hxy]
        have HR : Hid (decide (x ∈ ks) = true) := decide_eq_true (by rw [← hxy]; exact hmem)
        clear hxy hmem
        go_wp2_with fail
        go_ret
        exact ⟨ret_bool HR.out.symm, rfl⟩
      · have e1 : (y == x) = false := by simp [hxy]
        have HX := kide hxy
        clear hxy hmem
        go_wp2_with fail
        go_round
        case rel =>
          refine ⟨k + 1, by omega, by go_num, fun j hj => ?_⟩
          by_cases hjk : j = k
          · rw [hjk, HY.out]; exact HX.out
          · exact HZ.out j (by omega)
        case measure => simp [intOf]; omega
    · have HR : Hid (decide (x ∈ ks) = false) := decide_eq_false (fun h => by
        obtain ⟨j, hj, e⟩ := List.mem_iff_getElem.1 h
        exact hz j (by omega) (by simp [List.getD, hj, e]))
      clear hz
      go_wp2_with fail
      go_ret
      exact ⟨ret_bool HR.out.symm, rfl⟩

/-- What a call tells that has made a row of words, or none. -/
def RetM (w : World) (X : List Wq × Bool) (e : Ending) (w' : World) : Prop := ∃ v l, e = .returned (.tuple #[v, .bool X.2]) ∧ Bs w' w.heap.size v l ∧ l.map Bw.ct = X.1 ∧ Below w.heap.size w w'

theorem Bs.empty (w : World) (B : Nat) (h : B ≤ w.heap.size) : Bs (w.alloc (.cells #[] 30)) B (.slice (some ⟨w.heap.size, 0, Option.none⟩) 0 0) [] := ⟨OB2.empty w B h, by simp, DjB.nil⟩

set_option maxHeartbeats 1000000 in
theorem specMerge_any (a b d f : Option Addr) (c n c2 n2 c3 m c4 : Nat) (ds : List Dc) (xs ys : List Bw) (vs : List Int) (w : World) (hr : RdD w a ds) (hs : RdW w b xs) (hn : xs.length = n) (ht : RdW w d ys) (hn2 : ys.length = n2) (hv : RdI w f vs) (hm : vs.length = m) :
    Calls Try.prog 25 #[.slice a ds.length c, .slice b n c2, .slice d n2 c3, .slice f m c4] w (RetM w (mrgR ds (xs.map Bw.ct) (ys.map Bw.ct) vs)) := by
  have hb0 : Below w.heap.size w (w.alloc (Obj.cells #[] 30)) := (Below.refl _ _).alloc (Nat.le_refl _) _
  have E0 := kide (Bs.empty w w.heap.size (Nat.le_refl _))
  have HVA := kide (specValues_any a b c c2 ds xs _ (hr.later hb0) (hs.later hb0) n hn)
  have HVB := kide (fun u (hu : Below w.heap.size w u) => specValues_any a d c c3 ds ys u (hr.later hu) (ht.later hu) n2 hn2)
  have B0 := kide hb0
  cases hA : valR ds (xs.map Bw.ct) with
  | false =>
    rw [mrgR_no1 hA]
    rw [hA] at HVA
    clear hA hr hs ht hv hn hn2 hm hb0
    go_enter Try.func25, Try.ntmps25
    go_wp2_with fail
    refine Calls.mono HVA.out ?_
    rintro e w1 ⟨rfl, hb1⟩
    go_wp2_with fail
    go_returns
    exact ⟨_, [], rfl, E0.out.later hb1, rfl, B0.out.trans (hb1.mono B0.out.size)⟩
  | true =>
    rw [hA] at HVA
    cases hB : valR ds (ys.map Bw.ct) with
    | false =>
      rw [mrgR_no2 hB]
      rw [hB] at HVB
      clear hA hB hr hs ht hv hn hn2 hm hb0
      go_enter Try.func25, Try.ntmps25
      go_wp2_with fail
      generalize w.alloc (Obj.cells #[] 30) = w0 at *
      refine Calls.mono HVA.out ?_
      rintro e w1 ⟨rfl, hb1⟩
      have B1 := kide (B0.out.trans (hb1.mono B0.out.size))
      have E1 := kide (E0.out.later hb1)
      clear hb1
      go_wp2_with fail
      refine Calls.mono (HVB.out w1 B1.out) ?_
      rintro e w2 ⟨rfl, hb2⟩
      go_wp2_with fail
      go_returns
      exact ⟨_, [], rfl, E1.out.later hb2, rfl, B1.out.trans (hb2.mono B1.out.size)⟩
    | true =>
      rw [hB] at HVB
      obtain ⟨h60, hxl, hxp⟩ := valR_pos hA
      obtain ⟨-, hyl, hyp⟩ := valR_pos hB
      rw [hn] at hxl
      rw [hn2] at hyl
      obtain rfl := hxl.symm
      obtain rfl := hyl.symm
      have hX1 : risP ds.length (-1) vs = false → mrgR ds (xs.map Bw.ct) (ys.map Bw.ct) vs = ([], false) := fun h => mrgR_no3 h
      have hX2 : risP ds.length (-1) vs = true → mrgR ds (xs.map Bw.ct) (ys.map Bw.ct) vs = (mrgL ds.length (xs.map Bw.ct) (ys.map Bw.ct) vs, true) := fun h => mrgR_yes hA hB h
      generalize mrgR ds (xs.map Bw.ct) (ys.map Bw.ct) vs = X at hX1 hX2 ⊢
      have HS := kide hs
      have HT := kide ht
      have HV := kide hv
      have HN := kide hn
      have HN2 := kide hn2
      have HM := kide hm
      have HXP := kide hxp
      have HYP := kide hyp
      have hml := hv.1
      rw [hm] at hml
      obtain ⟨N, hNN⟩ : ∃ N, ds.length = N := ⟨_, rfl⟩
      rw [hNN] at h60 HN HN2
      rw [hNN] at HVA HVB hX1 hX2
      rw [hNN]
      generalize hRR : risP (N : Int) (-1) vs = R at hX1 hX2
      have HR := kide hRR
      have HX1 := kide hX1
      have HX2 := kide hX2
      clear hA hB hr hs ht hv hn hn2 hm hb0 hxl hyl hxp hyp hX1 hX2 hNN hRR
      go_enter Try.func25, Try.ntmps25
      go_wp2_with fail
      generalize w.alloc (Obj.cells #[] 30) = w0 at *
      refine Calls.mono HVA.out ?_
      rintro e w1 ⟨rfl, hb1⟩
      have B1 := kide (B0.out.trans (hb1.mono B0.out.size))
      have E1 := kide (E0.out.later hb1)
      clear hb1
      go_wp2_with fail
      refine Calls.mono (HVB.out w1 B1.out) ?_
      rintro e w2 ⟨rfl, hb2⟩
      have B2 := kide (B1.out.trans (hb2.mono B1.out.size))
      have E2 := kide (E1.out.later hb2)
      clear hb2 E1 B1 E0 B0 HVA HVB
      go_wp2_with fail
      go_loopw [11] (fun i wr => ∃ (j : Nat) (last : Int), j ≤ m ∧ i = .int .i64 (j : Int) ∧ -1 ≤ last ∧ (j = 0 → last = -1) ∧ (0 < j → last = vs.getD (j - 1) 0) ∧ risP N last (vs.drop j) = R ∧ Below w2.heap.size w2 wr) (fun i _ => m - (intOf i).toNat)
      case atStart => exact ⟨0, -1, Nat.zero_le _, rfl, Int.le_refl _, fun _ => rfl, fun h => by omega, by simpa using HR.out, Below.refl _ _⟩
      case round =>
        obtain ⟨j, last, hj, rfl, hl0, hj0, hjs, hz, hbel⟩ := hrel
        have HB := kide hbel
        have p2 := HV.out.later (B2.out.trans (hbel.mono B2.out.size))
        by_cases hjl : j < m
        · have hjv : j < vs.length := by rw [HM.out]; exact hjl
          obtain ⟨-, hi64, h | ⟨b3, o3, rfl, hc3⟩⟩ := p2
          · subst h; simp at hjv
          have e3 := hc3 j hjv
          rw [risP_step hjv] at hz
          have hprev : 0 < j → _ := fun h => hc3 (j - 1) (by omega)
          generalize hx : vs.getD j 0 = x at *
          have HX := kide hx
          have j0 : (j : Int) < (m : Int) := by omega
          have HZJ := kide hz
          have HIN := kide (fun u => l1In_any x 0 ((N : Int) - 1) u)
          clear hc3 hi64 hz hx hbel hjv
          cases hd : decide (0 ≤ x ∧ x ≤ (N : Int) - 1) with
          | true =>
            rw [hd] at HIN
            obtain ⟨hx1, hx2⟩ := of_decide_eq_true hd
            clear hd
            cases j with
            | zero =>
              have hl := hj0 rfl
              subst hl
              have HNX : Hid (risP N x (vs.drop 1) = R) := by
                show _ = _
                have h := HZJ.out
                simpa [show (-1 : Int) < x by omega, show x < (N : Int) by omega] using h
              clear hprev hj0 hjs
              rw [Nat.add_zero] at e3
              go_wp2_with fail
              go_quiet ((go_at_call 62; exact Calls.quiet_of_same (HIN.out _)))
              go_wp2_with fail
              go_roundw
              case rel => exact ⟨1, x, by omega, by go_num, by omega, fun h => by omega, fun _ => by simpa using HX.out.symm, HNX.out, below_drewN HB.out _⟩
              case measure => simp [intOf]; omega
            | succ j =>
              have hl := hjs (by omega)
              have e4 := hprev (by omega)
              simp only [Nat.add_sub_cancel] at hl e4
              rw [← hl] at e4
              have j1 : (j : Int) < (m : Int) := by omega
              clear hprev hj0 hjs hl
              by_cases hlx : last < x
              · have HNX : Hid (risP N x (vs.drop (j + 1 + 1)) = R) := by
                  show _ = _
                  have h := HZJ.out
                  simpa [hlx, show x < (N : Int) by omega] using h
                go_wp2_with fail
                go_quiet ((go_at_call 62; exact Calls.quiet_of_same (HIN.out _)))
                go_wp2_with fail
                go_roundw
                case rel => exact ⟨j + 1 + 1, x, by omega, by go_num, by omega, fun h => by omega, fun _ => by simpa using HX.out.symm, HNX.out, below_drewN HB.out _⟩
                case measure => simp [intOf]; omega
              · have HF : Hid (R = false) := by have h := HZJ.out; simp [hlx] at h; exact h
                go_wp2_with fail
                go_quiet ((go_at_call 62; exact Calls.quiet_of_same (HIN.out _)))
                go_wp2_with fail
                go_returns
                have hq := below_drewN HB.out
                rw [HX1.out HF.out]
                exact ⟨_, [], rfl, E2.out.later (hq _), rfl, B2.out.trans ((hq _).mono B2.out.size)⟩
          | false =>
            rw [hd] at HIN
            have hin := of_decide_eq_false hd
            have HF : Hid (R = false) := by
              have h := HZJ.out
              by_cases h1 : last < x
              · have h2 : ¬ x < (N : Int) := by omega
                simp [h2] at h; exact h
              · simp [h1] at h; exact h
            clear hd hprev hj0 hjs hin
            go_wp2_with fail
            go_quiet ((go_at_call 62; exact Calls.quiet_of_same (HIN.out _)))
            go_wp2_with fail
            go_returns
            have hq := below_drewN HB.out
            rw [HX1.out HF.out]
            exact ⟨_, [], rfl, E2.out.later (hq _), rfl, B2.out.trans ((hq _).mono B2.out.size)⟩
        · have HRT : Hid (R = true) := by
            show _ = _
            rw [← hz, List.drop_eq_nil_of_le (by rw [HM.out]; omega)]
            rfl
          have HB2 := kide (B2.out.trans (hbel.mono B2.out.size))
          have HE2 := kide (E2.out.later hbel)
          clear hz hbel p2 hj0 hjs HB E2 B2
          go_wp2_with fail
          go_loopw [10, 12] (fun v q wr => ∃ (k : Nat) (l : List Bw), k ≤ N ∧ q = .int .i64 (k : Int) ∧ Bs wr w.heap.size v l ∧ l.map Bw.ct = mrgL k (xs.map Bw.ct) (ys.map Bw.ct) vs ∧ Below w.heap.size w wr) (fun _ q _ => N - (intOf q).toNat)
          case atStart => exact ⟨0, [], Nat.zero_le _, rfl, HE2.out, rfl, HB2.out⟩
          case round =>
            clear HB2 HE2
            obtain ⟨k, l, hk, rfl, hbs, hct, hbel⟩ := hrel
            have HB := kide hbel
            have HBS := kide hbs
            have HCT := kide hct
            by_cases hlt : k < N
            · obtain ⟨-, h | ⟨b6, o6, rfl, hcx⟩⟩ := HS.out.later hbel
              · have := HN.out; subst h; simp at this; omega
              obtain ⟨-, h | ⟨b7, o7, rfl, hcy⟩⟩ := HT.out.later hbel
              · have := HN2.out; subst h; simp at this; omega
              obtain ⟨x, gx⟩ : ∃ y, xs[k]? = some y := ⟨xs[k]'(by rw [HN.out]; exact hlt), List.getElem?_eq_getElem _⟩
              obtain ⟨y, gy⟩ : ∃ y, ys[k]? = some y := ⟨ys[k]'(by rw [HN2.out]; exact hlt), List.getElem?_eq_getElem _⟩
              obtain ⟨p0, p1, p2, -⟩ := hcx k x gx
              obtain ⟨r0, r1, r2, -⟩ := hcy k y gy
              have hx0 := HXP.out x (List.mem_of_getElem? gx)
              have hy0 := HYP.out y (List.mem_of_getElem? gy)
              have ex : (xs.map Bw.ct).getD k (0, []) = x.ct := by simp [List.getD, gx]
              have ey : (ys.map Bw.ct).getD k (0, []) = y.ct := by simp [List.getD, gy]
              obtain ⟨xd, xa, xc, xw⟩ := x
              obtain ⟨yd, ya, yc, yw⟩ := y
              simp only [] at p0 p1 p2 hx0 r0 r1 r2 hy0
              obtain ⟨-, -, h | ⟨xb, xo, rfl, -⟩⟩ := id p2
              · rw [h] at hx0; simp at hx0
              obtain ⟨-, -, h | ⟨yb, yo, rfl, -⟩⟩ := id r2
              · rw [h] at hy0; simp at hy0
              have i0 : (k : Int) < (N : Int) := by omega
              have XP := kide p2
              have YP := kide r2
              obtain ⟨xm, hxm⟩ : ∃ m, xw.length = m := ⟨_, rfl⟩
              obtain ⟨ym, hym⟩ : ∃ m, yw.length = m := ⟨_, rfl⟩
              rw [hxm] at p1
              rw [hym] at r1
              have XM := kide hxm
              have YM := kide hym
              have lb := block_lt_of_cell p0
              have lb2 := block_lt_of_cell r0
              have hll : l.length ≤ 1073741824 := by
                have h := congrArg List.length HCT.out
                simp [mrgL] at h
                omega
              have HAS := kide (fun u (hu : Below wr.heap.size wr u) => l1Has_any f c4 vs (k : Int) u (HV.out.later (hbel.trans (hu.mono hbel.size))))
              rw [HM.out] at HAS
              have HELX := kide ex
              have HELY := kide ey
              clear hcx hcy gx gy p2 r2 hbs hct hbel hxm hym hx0 hy0 ex ey
              by_cases hmem : (k : Int) ∈ vs
              · rw [decide_eq_true hmem] at HAS
                have HEL : Hid ((if (k : Int) ∈ vs then (ys.map Bw.ct).getD k (0, []) else (xs.map Bw.ct).getD k (0, [])) = (yd, yw)) := by show _ = _; rw [if_pos hmem]; exact HELY.out
                clear hmem
                have hba : Below wr.heap.size wr (wr.alloc (Obj.cells #[Value.int .i64 yd, Value.slice (some ⟨yb, yo, none⟩) ym yc] 30)) := (Below.refl _ _).alloc (Nat.le_refl _) _
                go_wp2_with fail
                refine Calls.mono (HAS.out _ ((Below.refl _ _).alloc (Nat.le_refl _) _)) ?_
                rintro e w3 ⟨rfl, hw3⟩
                subst hw3
                go_wp2_with fail
                refine Calls.mono (l8CopyG yd yb yo yc ym yw _ (YP.out.later hba) YM.out) ?_
                rintro e w4 ⟨a2, c2, rfl, hn2, hb2⟩
                have HW1 := kide (hba.trans (hb2.mono hba.size))
                have HN2 := kide (hn2.mono hba.size)
                clear hn2 hb2 hba
                have hb3 : Below w4.heap.size w4 (w4.alloc (Obj.cells #[Value.int .i64 yd, Value.slice a2 ym c2] 30)) := (Below.refl _ _).alloc (Nat.le_refl _) _
                have q0 : (w4.alloc (Obj.cells #[Value.int .i64 yd, Value.slice a2 ym c2] 30)).cell? ⟨w4.heap.size, 0, none⟩ = some (.int .i64 yd) := by simp
                have q1 : (w4.alloc (Obj.cells #[Value.int .i64 yd, Value.slice a2 ym c2] 30)).cell? ⟨w4.heap.size, 1, none⟩ = some (.slice a2 ym c2) := by simp
                have HW3 := kide (HW1.out.trans (hb3.mono HW1.out.size))
                have HN3 := kide (HN2.out.later hb3)
                go_wp2_with (at_builtin; refine wpList_appB2 rfl _ _ rfl w.heap.size u10 l ⟨yd, a2, c2, yw⟩ (by first | rfl | simp [Act.eval]) (HBS.out.row.later HW3.out) w4.heap.size 1 (by first | rfl | simp [Act.eval]) q0 (by rw [YM.out]; exact q1) hll (Nat.le_trans HB.out.size HW3.out.size) ?_)
                intro g cap w5 ho5 hg5
                have HBS5 := kide (HBS.out.app HW3.out HB.out.size (y := ⟨yd, a2, c2, yw⟩) HN3.out hg5 ho5)
                have HB5 : Hid (Below w.heap.size w w5) := Below.grown (HB.out.trans (HW3.out.mono HB.out.size)) hg5 (Nat.le_trans HB.out.size HW3.out.size) (fun j hj => (HBS.out.row.lt hj).1)
                clear ho5 hg5 q0 q1 hb3
                go_wp2_with fail
                go_roundw
                case rel =>
                  refine ⟨k + 1, l ++ [⟨yd, a2, c2, yw⟩], by omega, by go_num, HBS5.out, ?_, HB5.out⟩
                  rw [List.map_append, HCT.out, mrgL_snoc, HEL.out]
                  rfl
                case measure => simp [intOf]; omega
              · rw [decide_eq_false hmem] at HAS
                have HEL : Hid ((if (k : Int) ∈ vs then (ys.map Bw.ct).getD k (0, []) else (xs.map Bw.ct).getD k (0, [])) = (xd, xw)) := by show _ = _; rw [if_neg hmem]; exact HELX.out
                clear hmem
                have hba : Below wr.heap.size wr (wr.alloc (Obj.cells #[Value.int .i64 xd, Value.slice (some ⟨xb, xo, none⟩) xm xc] 30)) := (Below.refl _ _).alloc (Nat.le_refl _) _
                go_wp2_with fail
                refine Calls.mono (HAS.out _ ((Below.refl _ _).alloc (Nat.le_refl _) _)) ?_
                rintro e w3 ⟨rfl, hw3⟩
                subst hw3
                go_wp2_with fail
                refine Calls.mono (l8CopyG xd xb xo xc xm xw _ (XP.out.later hba) XM.out) ?_
                rintro e w4 ⟨a2, c2, rfl, hn2, hb2⟩
                have HW1 := kide (hba.trans (hb2.mono hba.size))
                have HN2 := kide (hn2.mono hba.size)
                clear hn2 hb2 hba
                have hb3 : Below w4.heap.size w4 (w4.alloc (Obj.cells #[Value.int .i64 xd, Value.slice a2 xm c2] 30)) := (Below.refl _ _).alloc (Nat.le_refl _) _
                have q0 : (w4.alloc (Obj.cells #[Value.int .i64 xd, Value.slice a2 xm c2] 30)).cell? ⟨w4.heap.size, 0, none⟩ = some (.int .i64 xd) := by simp
                have q1 : (w4.alloc (Obj.cells #[Value.int .i64 xd, Value.slice a2 xm c2] 30)).cell? ⟨w4.heap.size, 1, none⟩ = some (.slice a2 xm c2) := by simp
                have HW3 := kide (HW1.out.trans (hb3.mono HW1.out.size))
                have HN3 := kide (HN2.out.later hb3)
                go_wp2_with (at_builtin; refine wpList_appB2 rfl _ _ rfl w.heap.size u10 l ⟨xd, a2, c2, xw⟩ (by first | rfl | simp [Act.eval]) (HBS.out.row.later HW3.out) w4.heap.size 1 (by first | rfl | simp [Act.eval]) q0 (by rw [XM.out]; exact q1) hll (Nat.le_trans HB.out.size HW3.out.size) ?_)
                intro g cap w5 ho5 hg5
                have HBS5 := kide (HBS.out.app HW3.out HB.out.size (y := ⟨xd, a2, c2, xw⟩) HN3.out hg5 ho5)
                have HB5 : Hid (Below w.heap.size w w5) := Below.grown (HB.out.trans (HW3.out.mono HB.out.size)) hg5 (Nat.le_trans HB.out.size HW3.out.size) (fun j hj => (HBS.out.row.lt hj).1)
                clear ho5 hg5 q0 q1 hb3
                go_wp2_with fail
                go_roundw
                case rel =>
                  refine ⟨k + 1, l ++ [⟨xd, a2, c2, xw⟩], by omega, by go_num, HBS5.out, ?_, HB5.out⟩
                  rw [List.map_append, HCT.out, mrgL_snoc, HEL.out]
                  rfl
                case measure => simp [intOf]; omega
            · have hkn : k = N := by omega
              have HE : Hid (l.map Bw.ct = mrgL N (xs.map Bw.ct) (ys.map Bw.ct) vs) := by
                show _ = _
                rw [hct, hkn]
              clear hbs hct hbel
              go_wp2_with fail
              go_returns
              rw [HX2.out HRT.out]
              exact ⟨_, l, rfl, HBS.out, HE.out, HB.out⟩

end Go.Proofs.Ytpmpipcpifmncaa

/- What the program's Merge answers. -/
namespace Go.Proofs.Ytpmpipcpifmncaa
set_option linter.unusedVariables false
set_option linter.unusedSimpArgs false
open Go.RowKit

theorem bwc_set : ∀ (l : List Bw) (i : Nat) (x : Bw), bwc (l.set i x) = ((bwc l).set (i * 2) (.int .i64 x.wd)).set (i * 2 + 1) (.slice x.a x.ws.length x.c)
  | [], i, x => by simp [bwc]
  | y :: t, 0, x => by simp [bwc]
  | y :: t, i + 1, x => by
    rw [show (i + 1) * 2 = i * 2 + 1 + 1 by omega]
    simp [bwc, bwc_set t i x]

theorem OB2.store {w : World} {B g n c : Nat} {l : List Bw} (h : OB2 w B (.slice (some ⟨g, 0, none⟩) n c) l) (i : Nat) (x : Bw) :
    OB2 ((w.setCell ⟨g, i * 2, none⟩ (.int .i64 x.wd)).setCell ⟨g, i * 2 + 1, none⟩ (.slice x.a x.ws.length x.c)) B (.slice (some ⟨g, 0, none⟩) n c) (l.set i x) := by
  rcases h with ⟨h1, ⟨e, -⟩ | ⟨g', cap, cur, e, hg, hh, hc1, hc2, hsz, hcur⟩⟩
  · cases e
  · cases e
    refine ⟨by rw [bwc_len, List.length_set], .inr ⟨g, c, (cur.setIfInBounds (i * 2) (.int .i64 x.wd)).setIfInBounds (i * 2 + 1) (.slice x.a x.ws.length x.c), by rw [List.length_set], hg, ?_, by rw [List.length_set]; exact hc1, hc2, by simpa using hsz, ?_⟩⟩
    · exact heap_setCell_same _ g _ _ _ _ (heap_setCell_same w g _ _ _ _ hh)
    · rw [List.length_set, bwc_set, ← hcur]
      simp [List.take_set]
theorem OB2.blk {w : World} {B g n c : Nat} {l : List Bw} (h : OB2 w B (.slice (some ⟨g, 0, none⟩) n c) l) : ∃ cur, Bz w g cur 30 := h.typed rfl

theorem Bs.store {w w1 : World} {B g n c i : Nat} {l : List Bw} {x : Bw} (h : Bs w B (.slice (some ⟨g, 0, none⟩) n c) l) (hb : Below w.heap.size w w1) (hB : B ≤ w.heap.size) (hx : Nw w1 w.heap.size x.a x.ws) :
    Bs ((w1.setCell ⟨g, i * 2, none⟩ (.int .i64 x.wd)).setCell ⟨g, i * 2 + 1, none⟩ (.slice x.a x.ws.length x.c)) B (.slice (some ⟨g, 0, none⟩) n c) (l.set i x) where
  row := (h.row.later hb).store i x
  nw := fun y hy => by
    obtain ⟨cur, hc⟩ := (h.row.later hb).blk
    rcases List.mem_or_eq_of_mem_set hy with hy | rfl
    · exact nw_set (nw_set ((h.nw y hy).later hb) hc (by decide) _ _) (hc.set _ _) (by decide) _ _
    · exact (nw_set (nw_set hx hc (by decide) _ _) (hc.set _ _) (by decide) _ _).mono hB
  dj := h.dj.set h.nw fun p hp => (nw_lt hx hp).1

theorem Bs.mono {w : World} {B B' : Nat} {v : Value} {l : List Bw} (h : Bs w B v l) (hB : B' ≤ B) : Bs w B' v l := by
  refine ⟨⟨h.row.1, ?_⟩, fun x hx => (h.nw x hx).mono hB, h.dj⟩
  rcases h.row.2 with h0 | ⟨g, cap, cur, e, hg, r⟩
  · exact .inl h0
  · exact .inr ⟨g, cap, cur, e, Nat.le_trans hB hg, r⟩

theorem mrgL_step {N k : Nat} {A B : List Wq} {vs : List Int} {x : Int} (hx : vs[k]? = some x) (h0 : 0 ≤ x) (h1 : x < (N : Int)) : (mrgL N A B (vs.take k)).set x.toNat (B.getD x.toNat (0, [])) = mrgL N A B (vs.take (k + 1)) := by
  apply List.ext_getElem?
  intro i
  rw [List.getElem?_set]
  unfold mrgL
  simp only [List.length_map, List.length_range, List.getElem?_map]
  by_cases hi : i < N
  · rw [List.getElem?_range hi]
    simp only [Option.map_some, List.take_add_one, hx, Option.toList_some, List.mem_append, List.mem_singleton]
    by_cases hix : x.toNat = i
    · rw [if_pos hix, if_pos (by omega), if_pos (.inr (by omega)), hix]
    · rw [if_neg hix]
      by_cases hm : (i : Int) ∈ vs.take k
      · rw [if_pos hm, if_pos (.inl hm)]
      · rw [if_neg hm, if_neg (by
          rintro (h | h)
          · exact hm h
          · omega)]
  · rw [if_neg (by omega)]
    simp [hi]

theorem placesRise_any (a : Option Addr) (c m N : Nat) (vs : List Int) (w : World) (hv : RdI w a vs) (hm : vs.length = m) :
    Calls Try.prog 65 #[.slice a m c, .int .i64 (N : Int)] w fun e w' => e = .returned (.bool (risP N (-1) vs)) ∧ w' = w := by
  have hml := hv.1
  rw [hm] at hml
  generalize hRR : risP (N : Int) (-1) vs = R
  have HR := kide hRR
  have HM := kide hm
  clear hRR hm
  go_enter Try.func65, Try.ntmps65
  go_wp2_with fail
  go_loop [5, 10] (fun l q => ∃ (k : Nat) (last : Int), k ≤ m ∧ q = .int .i64 (k : Int) ∧ l = .int .i64 last ∧ risP N last (vs.drop k) = R) (fun _ q => m - (intOf q).toNat)
  case atStart => exact ⟨0, -1, Nat.zero_le _, rfl, rfl, by simpa using HR.out⟩
  case round =>
    obtain ⟨k, last, hk, rfl, rfl, hz⟩ := hrel
    by_cases hlt : k < m
    · have hkv : k < vs.length := by rw [HM.out]; exact hlt
      obtain ⟨-, -, h | ⟨b, o, rfl, hc⟩⟩ := hv
      · subst h; simp at hkv
      have e0 := hc k hkv
      rw [risP_step hkv] at hz
      generalize vs.getD k 0 = y at *
      have i0 : (k : Int) < (m : Int) := by omega
      have HZ := kide hz
      clear hc hz hkv
      by_cases h1 : last < y
      · by_cases h2 : y < (N : Int)
        · have HZ1 : Hid (risP N y (vs.drop (k + 1)) = R) := by have h := HZ.out; simp [h1, h2] at h; exact h
          go_wp2_with fail
          go_round
          case rel => exact ⟨k + 1, y, by omega, by go_num, rfl, HZ1.out⟩
          case measure => simp [intOf]; omega
        · have HZ1 : Hid (R = false) := by have h := HZ.out; simp [h2] at h; exact h
          go_wp2_with fail
          go_ret
          exact ⟨ret_bool HZ1.out.symm, rfl⟩
      · have HZ1 : Hid (R = false) := by have h := HZ.out; simp [h1] at h; exact h
        go_wp2_with fail
        go_ret
        exact ⟨ret_bool HZ1.out.symm, rfl⟩
    · have HZ1 : Hid (R = true) := by
        show _ = _
        rw [← hz, List.drop_eq_nil_of_le (by rw [HM.out]; omega)]
        rfl
      clear hz
      go_wp2_with fail
      go_ret
      exact ⟨ret_bool HZ1.out.symm, rfl⟩

set_option maxHeartbeats 1000000 in
theorem implMerge_any (a b d f : Option Addr) (c n c2 n2 c3 m c4 : Nat) (ds : List Dc) (xs ys : List Bw) (vs : List Int) (w : World) (hr : RdD w a ds) (hs : RdW w b xs) (hn : xs.length = n) (ht : RdW w d ys) (hn2 : ys.length = n2) (hv : RdI w f vs) (hm : vs.length = m) :
    Calls Try.prog 26 #[.slice a ds.length c, .slice b n c2, .slice d n2 c3, .slice f m c4] w (RetM w (mrgR ds (xs.map Bw.ct) (ys.map Bw.ct) vs)) := by
  have HVA := kide (implValues_any a b c c2 ds xs w hr hs n hn)
  have HVB := kide (fun u (hu : Below w.heap.size w u) => implValues_any a d c c3 ds ys u (hr.later hu) (ht.later hu) n2 hn2)
  have HPR := kide (fun u (hu : Below w.heap.size w u) => placesRise_any f c4 m ds.length vs u (hv.later hu) hm)
  cases hA : valR ds (xs.map Bw.ct) with
  | false =>
    rw [mrgR_no1 hA]
    rw [hA] at HVA
    clear hA hr hs ht hv hn hn2 hm
    go_enter Try.func26, Try.ntmps26
    go_wp2_with fail
    refine Calls.mono HVA.out ?_
    rintro e w1 ⟨rfl, hb1⟩
    go_wp2_with fail
    go_returns
    exact ⟨_, [], rfl, Bs.nil _ _, rfl, hb1⟩
  | true =>
    rw [hA] at HVA
    cases hB : valR ds (ys.map Bw.ct) with
    | false =>
      rw [mrgR_no2 hB]
      rw [hB] at HVB
      clear hA hB hr hs ht hv hn hn2 hm
      go_enter Try.func26, Try.ntmps26
      go_wp2_with fail
      refine Calls.mono HVA.out ?_
      rintro e w1 ⟨rfl, hb1⟩
      go_wp2_with fail
      refine Calls.mono (HVB.out w1 hb1) ?_
      rintro e w2 ⟨rfl, hb2⟩
      go_wp2_with fail
      go_returns
      exact ⟨_, [], rfl, Bs.nil _ _, rfl, hb1.trans (hb2.mono hb1.size)⟩
    | true =>
      rw [hB] at HVB
      cases hR : risP ds.length (-1) vs with
      | false =>
        rw [mrgR_no3 hR]
        rw [hR] at HPR
        clear hA hB hR hr hs ht hv hn hn2 hm
        go_enter Try.func26, Try.ntmps26
        go_wp2_with fail
        refine Calls.mono HVA.out ?_
        rintro e w1 ⟨rfl, hb1⟩
        go_wp2_with fail
        refine Calls.mono (HVB.out w1 hb1) ?_
        rintro e w2 ⟨rfl, hb2⟩
        have B2 := kide (hb1.trans (hb2.mono hb1.size))
        clear hb1 hb2
        go_wp2_with fail
        refine Calls.mono (HPR.out w2 B2.out) ?_
        rintro e w3 ⟨rfl, hw3⟩
        obtain rfl := hw3.symm
        go_wp2_with fail
        go_returns
        exact ⟨_, [], rfl, Bs.nil _ _, rfl, B2.out⟩
      | true =>
        rw [mrgR_yes hA hB hR]
        rw [hR] at HPR
        obtain ⟨h60, hxl, hxp⟩ := valR_pos hA
        obtain ⟨-, hyl, hyp⟩ := valR_pos hB
        rw [hn] at hxl
        rw [hn2] at hyl
        obtain rfl := hxl.symm
        obtain rfl := hyl.symm
        have HRI := kide (risP_in hR)
        have HS := kide hs
        have HT := kide ht
        have HV := kide hv
        have HN := kide hn
        have HN2 := kide hn2
        have HM := kide hm
        have HXP := kide hxp
        have HYP := kide hyp
        have hml := hv.1
        rw [hm] at hml
        have HCV := kide (fun u (hu : Below w.heap.size w u) => copyValues_any b c2 ds.length xs u (hs.later hu) hn hxp)
        generalize ds.length = N at *
        clear hA hB hR hr hs ht hv hn hn2 hm hxl hyl hxp hyp
        go_enter Try.func26, Try.ntmps26
        go_wp2_with fail
        refine Calls.mono HVA.out ?_
        rintro e w1 ⟨rfl, hb1⟩
        go_wp2_with fail
        refine Calls.mono (HVB.out w1 hb1) ?_
        rintro e w2 ⟨rfl, hb2⟩
        have B2 := kide (hb1.trans (hb2.mono hb1.size))
        clear hb1 hb2
        go_wp2_with fail
        refine Calls.mono (HPR.out w2 B2.out) ?_
        rintro e w3 ⟨rfl, hw3⟩
        obtain rfl := hw3.symm
        go_wp2_with fail
        refine Calls.mono (HCV.out w2 B2.out) ?_
        rintro e w4 ⟨v4, l4, rfl, bs4, hl4, hb4⟩
        have B4 := kide (B2.out.trans (hb4.mono B2.out.size))
        obtain ⟨av, cv, rfl⟩ := bs4.form
        have hl4l : l4.length = N := by
          have h := congrArg List.length hl4
          simp at h
          rw [h]; exact HN.out
        rw [hl4l] at bs4
        rw [hl4l]
        have BS4 := kide bs4
        have S4 := kide hb4.size
        have HL0 : Hid (l4.map Bw.ct = mrgL N (xs.map Bw.ct) (ys.map Bw.ct) (vs.take 0)) := by
          show _ = _
          rw [hl4]
          apply List.ext_getElem?
          intro i
          simp only [mrgL, List.getElem?_map, List.take_zero]
          by_cases hi : i < N
          · rw [List.getElem?_range hi]
            have hix : i < xs.length := by rw [HN.out]; exact hi
            simp [List.getD, hix]
          · simp [hi, HN.out]
        clear bs4 hl4 hb4 hl4l HCV HPR HVA HVB
        go_wp2_with fail
        go_loopw [34] (fun q wr => ∃ (k : Nat) (l : List Bw), k ≤ m ∧ q = .int .i64 (k : Int) ∧ Bs wr w2.heap.size (.slice av N cv) l ∧ l.map Bw.ct = mrgL N (xs.map Bw.ct) (ys.map Bw.ct) (vs.take k) ∧ Below w.heap.size w wr ∧ w2.heap.size ≤ wr.heap.size) (fun q _ => m - (intOf q).toNat)
        case atStart => exact ⟨0, l4, Nat.zero_le _, rfl, BS4.out, HL0.out, B4.out, S4.out⟩
        case round =>
          clear BS4 HL0 B4 S4
          obtain ⟨k, l, hk, rfl, hbs, hct, hbel, hsz⟩ := hrel
          have HB := kide hbel
          have HBS := kide hbs
          have HCT := kide hct
          by_cases hlt : k < m
          · have hkv : k < vs.length := by rw [HM.out]; exact hlt
            obtain ⟨-, -, h | ⟨b5, o5, rfl, hcv⟩⟩ := HV.out.later hbel
            · subst h; simp at hkv
            have e5 := hcv k hkv
            have gv : vs[k]? = some (vs.getD k 0) := by simp [List.getD, hkv]
            generalize vs.getD k 0 = x at *
            obtain ⟨hx0, hx1⟩ := HRI.out x (List.mem_of_getElem? gv)
            obtain ⟨q, rfl⟩ := Int.eq_ofNat_of_zero_le (show 0 ≤ x by omega)
            have hqN : q < N := by omega
            have GV := kide gv
            obtain ⟨-, h | ⟨b7, o7, rfl, hcy⟩⟩ := HT.out.later hbel
            · have := HN2.out; subst h; simp at this; omega
            obtain ⟨y, gy⟩ : ∃ y, ys[q]? = some y := ⟨ys[q]'(by rw [HN2.out]; exact hqN), List.getElem?_eq_getElem _⟩
            obtain ⟨r0, r1, r2, -⟩ := hcy q y gy
            have hy0 := HYP.out y (List.mem_of_getElem? gy)
            have ey : (ys.map Bw.ct).getD q (0, []) = y.ct := by simp [List.getD, gy]
            obtain ⟨yd, ya, yc, yw⟩ := y
            simp only [] at r0 r1 r2 hy0
            obtain ⟨-, -, h | ⟨yb, yo, rfl, -⟩⟩ := id r2
            · rw [h] at hy0; simp at hy0
            have YP := kide r2
            obtain ⟨ym, hym⟩ : ∃ m, yw.length = m := ⟨_, rfl⟩
            rw [hym] at r1
            have YM := kide hym
            have HEY := kide ey
            have i0 : (k : Int) < (m : Int) := by omega
            have i1 : (q : Int) < (N : Int) := by omega
            have hll : l.length = N := by
              have h := congrArg List.length hct
              simp [mrgL] at h
              exact h
            obtain ⟨g, c', eg, z0, z1⟩ := hbs.row.at (List.getElem?_eq_getElem (show q < l.length by omega))
            cases eg
            have LG := (hbs.row.lt rfl).2
            clear hcv hcy gy gv r2 hbs hct hbel hym hy0 ey z0 z1 hkv
            go_wp2_with fail
            refine Calls.mono (copyG yd yb yo yc ym yw _ YP.out YM.out) ?_
            rintro e w5 ⟨a2, c2, rfl, hn5, hb5⟩
            obtain ⟨g', c', eg, z0, z1⟩ := (HBS.out.row.later hb5).at (List.getElem?_eq_getElem (show q < l.length by omega))
            cases eg
            obtain ⟨cur, hcur⟩ := (HBS.out.row.later hb5).blk
            have f0 := hcur.froz (q * 2)
            have f1 := hcur.froz (q * 2 + 1)
            have HBS5 := kide (HBS.out.store (i := q) (x := ⟨yd, a2, c2, yw⟩) hb5 hsz hn5)
            have HB5 := kide (HB.out.trans (hb5.mono HB.out.size))
            have S5 := kide (Nat.le_trans hsz hb5.size)
            have GB := kide (HBS.out.row.lt rfl).1
            rw [YM.out] at HBS5
            clear hn5 hb5 hcur
            go_wp2_with fail
            go_roundw
            case rel =>
              refine ⟨k + 1, l.set q ⟨yd, a2, c2, yw⟩, by omega, by go_num, HBS5.out, ?_, ?_, ?_⟩
              · rw [List.map_set, HCT.out]
                have h := mrgL_step (A := xs.map Bw.ct) (B := ys.map Bw.ct) GV.out (by omega) i1
                rw [Int.toNat_natCast, HEY.out] at h
                exact h
              · exact (HB5.out.setCell (Nat.le_trans B2.out.size GB.out) _).setCell (Nat.le_trans B2.out.size GB.out) _
              · simpa using S5.out
            case measure => simp [intOf]; omega
          · have hkn : k = m := by omega
            have HE : Hid (l.map Bw.ct = mrgL N (xs.map Bw.ct) (ys.map Bw.ct) vs) := by
              show _ = _
              rw [hct, hkn, ← HM.out, List.take_length]
            have HBS2 : Hid (Bs wr w.heap.size (.slice av N cv) l) := hbs.mono B2.out.size
            clear hbs hct hbel
            go_wp2_with fail
            go_returns
            exact ⟨_, l, rfl, HBS2.out, HE.out, HB.out⟩

end Go.Proofs.Ytpmpipcpifmncaa

/- What is merged may stand in a row of words. -/
namespace Go.Proofs.Ytpmpipcpifmncaa
set_option linter.unusedVariables false
set_option linter.unusedSimpArgs false
open Go.RowKit

theorem okW_mrg {ds : List Dc} {A B : List Wq} {vs : List Int} (hA : okW A) (hB : okW B) : okW (mrgR ds A B vs).1 := by
  have h0 : okW [] := ⟨by simp, by simp⟩
  by_cases h : okM ds A B vs = true
  · have e : mrgR ds A B vs = (mrgL ds.length A B vs, true) := by simp [mrgR, h]
    rw [e]
    simp only [okM, Bool.and_eq_true] at h
    have h60 := (dclR_iff.1 (valR_iff.1 h.1.1).1).1
    refine ⟨by simp [mrgL]; omega, fun x hx => ?_⟩
    obtain ⟨i, -, rfl⟩ := List.mem_map.1 hx
    have key : ∀ C : List Wq, okW C → in64 (C.getD i (0, [])).1 ∧ (C.getD i (0, [])).2.length ≤ 1048576 ∧ ∀ y ∈ (C.getD i (0, [])).2, y < 18446744073709551616 := fun C hC => by
      by_cases hi : i < C.length
      · have e : C.getD i (0, []) = C[i] := by simp [List.getD, hi]
        rw [e]
        exact hC.2 _ (List.getElem_mem hi)
      · have e : C.getD i (0, []) = (0, []) := by simp [List.getD, hi]
        rw [e]
        exact ⟨by unfold in64; omega, by simp, by simp⟩
    split
    · exact key B hB
    · exact key A hA
  · have e : mrgR ds A B vs = ([], false) := by simp [mrgR, h]
    rw [e]
    exact h0

end Go.Proofs.Ytpmpipcpifmncaa
