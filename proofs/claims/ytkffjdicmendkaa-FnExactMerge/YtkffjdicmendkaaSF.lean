/- Values that are merged: plainly; what the given Merge answers. -/
import Derived.Test.YtkffjdicmendkaaSE
import Derived.Test.YtkffjdicmendkaaKH
import Derived.Test.YtkffjdicmendkaaKJ
import Derived.Test.YtkffjdicmendkaaKI
namespace Go.Proofs.Ytkffjdicmendkaa
set_option linter.unusedVariables false
set_option linter.unusedSimpArgs false
open Go.RowKit

/-- Do numbers rise from behind last to ahead of n? -/
def risP (n : Int) : Int → List Int → Bool
  | _, [] => true
  | l, k :: t => decide (l < k) && decide (k < n) && risP n k t
theorem risP_step {W last : Int} {ks : List Int} {j : Nat} (h : j < ks.length) : risP W last (ks.drop j) = (decide (last < ks.getD j 0) && decide (ks.getD j 0 < W) && risP W (ks.getD j 0) (ks.drop (j + 1))) := by
  rw [List.drop_eq_getElem_cons h, risP]
  simp [List.getD, h]
theorem risP_in {n : Int} {l : Int} {ks : List Int} (h : risP n l ks = true) : ∀ k ∈ ks, l < k ∧ k < n := by
  induction ks generalizing l with
  | nil => simp
  | cons x t ih =>
    rw [risP] at h
    simp only [Bool.and_eq_true, decide_eq_true_eq] at h
    intro k hk
    rcases List.mem_cons.1 hk with rfl | hk
    · exact h.1
    · have := ih h.2 k hk
      omega

abbrev Wq := Int × List Nat
def okM (ds : List Dc) (A B : List Wq) (vs : List Int) : Bool := valR ds A && valR ds B && risP ds.length (-1) vs
def mrgL (n : Nat) (A B : List Wq) (vs : List Int) : List Wq := (List.range n).map fun (v : Nat) => if (v : Int) ∈ vs then B.getD v (0, []) else A.getD v (0, [])
def mrgR (ds : List Dc) (A B : List Wq) (vs : List Int) : List Wq × Bool := if okM ds A B vs = true then (mrgL ds.length A B vs, true) else ([], false)

theorem mrgL_snoc (k : Nat) (A B : List Wq) (vs : List Int) : mrgL (k + 1) A B vs = mrgL k A B vs ++ [if (k : Int) ∈ vs then B.getD k (0, []) else A.getD k (0, [])] := by simp [mrgL, List.range_succ]
theorem mrgR_no1 {ds : List Dc} {A B : List Wq} {vs : List Int} (h : valR ds A = false) : mrgR ds A B vs = ([], false) := by simp [mrgR, okM, h]
theorem mrgR_no2 {ds : List Dc} {A B : List Wq} {vs : List Int} (h : valR ds B = false) : mrgR ds A B vs = ([], false) := by simp [mrgR, okM, h]
theorem mrgR_no3 {ds : List Dc} {A B : List Wq} {vs : List Int} (h : risP ds.length (-1) vs = false) : mrgR ds A B vs = ([], false) := by simp [mrgR, okM, h]
theorem mrgR_yes {ds : List Dc} {A B : List Wq} {vs : List Int} (h1 : valR ds A = true) (h2 : valR ds B = true) (h3 : risP ds.length (-1) vs = true) : mrgR ds A B vs = (mrgL ds.length A B vs, true) := by simp [mrgR, okM, h1, h2, h3]

theorem valR_pos {ds : List Dc} {xs : List Bw} (h : valR ds (xs.map Bw.ct) = true) : ds.length ≤ 60 ∧ xs.length = ds.length ∧ ∀ x ∈ xs, 0 < x.ws.length := by
  obtain ⟨h1, h2, h3⟩ := valR_iff.1 h
  refine ⟨(dclR_iff.1 h1).1, by simpa using h2, fun x hx => ?_⟩
  obtain ⟨i, hi, e⟩ := List.mem_iff_getElem.1 hx
  have h4 := (h3 i (by simpa using hi)).1
  have e2 : (xs.map Bw.ct).getD i (0, []) = x.ct := by simp [List.getD, hi, e]
  rw [e2] at h4
  replace h4 : rightB x.wd x.ws = true := h4
  simp only [rightB, Bool.and_eq_true, decide_eq_true_eq] at h4
  have h5 := h4.1.1
  simp [wOk] at h5
  have h6 := h4.1.2
  omega

theorem l1Has_any (a : Option Addr) (c : Nat) (ks : List Int) (x : Int) (w : World) (hr : RdI w a ks) :
    Calls Try.prog 49 #[.slice a ks.length c, .int .i64 x] w fun e w' => e = .returned (.bool (decide (x ∈ ks))) ∧ w' = w := by
  have hlen := hr.1
  go_enter Try.func49, Try.ntmps49
  go_wp2_with fail
  go_loop [5] (fun i => ∃ k : Nat, k ≤ ks.length ∧ i = .int .i64 (k : Int) ∧ ∀ j, j < k → ks.getD j 0 ≠ x) (fun i => ks.length - (intOf i).toNat)
  case atStart => exact ⟨0, Nat.zero_le _, rfl, fun j h => by omega⟩
  case round =>
    obtain ⟨k, hk, rfl, hz⟩ := hrel
    have HZ := kide hz
    by_cases hlt : k < ks.length
    · obtain ⟨-, -, h | ⟨b, o, rfl, hc⟩⟩ := hr
      · subst h; simp at hlt
      have e0 := hc k hlt
      have hmem : ks.getD k 0 ∈ ks := by simp [List.getD, hlt]
      generalize hy : ks.getD k 0 = y at *
      have HY := kide hy
      have i0 : (k : Int) < (ks.length : Int) := by omega
      clear hc hz hy
      by_cases hxy : y = x
      · have e1 : (y == x) = true := by simp [hxy]
        have HR : Hid (decide (x ∈ ks) = true) := decide_eq_true (by rw [← hxy]; exact hmem)
        clear hxy hmem
        go_wp2_with fail
        go_ret
        exact ⟨ret_bool HR.out.symm, rfl⟩
      · have e1 : (y == x) = false := by simp [hxy]
        have HX := kide hxy
        clear hxy hmem
        go_wp2_with fail
        go_round
        case rel =>
          refine ⟨k + 1, by omega, by go_num, fun j hj => ?_⟩
          by_cases hjk : j = k
          · rw [hjk, HY.out]; exact HX.out
          · exact HZ.out j (by omega)
        case measure => simp [intOf]; omega
    · have HR : Hid (decide (x ∈ ks) = false) := decide_eq_false (fun h => by
        obtain ⟨j, hj, e⟩ := List.mem_iff_getElem.1 h
        exact hz j (by omega) (by simp [List.getD, hj, e]))
      clear hz
      go_wp2_with fail
      go_ret
      exact ⟨ret_bool HR.out.symm, rfl⟩

/-- What a call tells that has made a row of words, or none. -/
def RetM (w : World) (X : List Wq × Bool) (e : Ending) (w' : World) : Prop := ∃ v l, e = .returned (.tuple #[v, .bool X.2]) ∧ Bs w' w.heap.size v l ∧ l.map Bw.ct = X.1 ∧ Below w.heap.size w w'

theorem Bs.empty (w : World) (B : Nat) (h : B ≤ w.heap.size) : Bs (w.alloc (.cells #[] 58)) B (.slice (some ⟨w.heap.size, 0, Option.none⟩) 0 0) [] := ⟨OB2.empty w B h, by simp, DjB.nil⟩

set_option maxHeartbeats 1000000 in
theorem specMerge_any (a b d f : Option Addr) (c n c2 n2 c3 m c4 : Nat) (ds : List Dc) (xs ys : List Bw) (vs : List Int) (w : World) (hr : RdD w a ds) (hs : RdW w b xs) (hn : xs.length = n) (ht : RdW w d ys) (hn2 : ys.length = n2) (hv : RdI w f vs) (hm : vs.length = m) :
    Calls Try.prog 23 #[.slice a ds.length c, .slice b n c2, .slice d n2 c3, .slice f m c4] w (RetM w (mrgR ds (xs.map Bw.ct) (ys.map Bw.ct) vs)) := by
  have hb0 : Below w.heap.size w (w.alloc (Obj.cells #[] 58)) := (Below.refl _ _).alloc (Nat.le_refl _) _
  have E0 := kide (Bs.empty w w.heap.size (Nat.le_refl _))
  have HVA := kide (specValues_any a b c c2 ds xs _ (hr.later hb0) (hs.later hb0) n hn)
  have HVB := kide (fun u (hu : Below w.heap.size w u) => specValues_any a d c c3 ds ys u (hr.later hu) (ht.later hu) n2 hn2)
  have B0 := kide hb0
  cases hA : valR ds (xs.map Bw.ct) with
  | false =>
    rw [mrgR_no1 hA]
    rw [hA] at HVA
    clear hA hr hs ht hv hn hn2 hm hb0
    go_enter Try.func23, Try.ntmps23
    go_wp2_with fail
    refine Calls.mono HVA.out ?_
    rintro e w1 ⟨rfl, hb1⟩
    go_wp2_with fail
    go_returns
    exact ⟨_, [], rfl, E0.out.later hb1, rfl, B0.out.trans (hb1.mono B0.out.size)⟩
  | true =>
    rw [hA] at HVA
    cases hB : valR ds (ys.map Bw.ct) with
    | false =>
      rw [mrgR_no2 hB]
      rw [hB] at HVB
      clear hA hB hr hs ht hv hn hn2 hm hb0
      go_enter Try.func23, Try.ntmps23
      go_wp2_with fail
      generalize w.alloc (Obj.cells #[] 58) = w0 at *
      refine Calls.mono HVA.out ?_
      rintro e w1 ⟨rfl, hb1⟩
      have B1 := kide (B0.out.trans (hb1.mono B0.out.size))
      have E1 := kide (E0.out.later hb1)
      clear hb1
      go_wp2_with fail
      refine Calls.mono (HVB.out w1 B1.out) ?_
      rintro e w2 ⟨rfl, hb2⟩
      go_wp2_with fail
      go_returns
      exact ⟨_, [], rfl, E1.out.later hb2, rfl, B1.out.trans (hb2.mono B1.out.size)⟩
    | true =>
      rw [hB] at HVB
      obtain ⟨h60, hxl, hxp⟩ := valR_pos hA
      obtain ⟨-, hyl, hyp⟩ := valR_pos hB
      rw [hn] at hxl
      rw [hn2] at hyl
      obtain rfl := hxl.symm
      obtain rfl := hyl.symm
      have hX1 : risP ds.length (-1) vs = false → mrgR ds (xs.map Bw.ct) (ys.map Bw.ct) vs = ([], false) := fun h => mrgR_no3 h
      have hX2 : risP ds.length (-1) vs = true → mrgR ds (xs.map Bw.ct) (ys.map Bw.ct) vs = (mrgL ds.length (xs.map Bw.ct) (ys.map Bw.ct) vs, true) := fun h => mrgR_yes hA hB h
      generalize mrgR ds (xs.map Bw.ct) (ys.map Bw.ct) vs = X at hX1 hX2 ⊢
      have HS := kide hs
      have HT := kide ht
      have HV := kide hv
      have HN := kide hn
      have HN2 := kide hn2
      have HM := kide hm
      have HXP := kide hxp
      have HYP := kide hyp
      have hml := hv.1
      rw [hm] at hml
      obtain ⟨N, hNN⟩ : ∃ N, ds.length = N := ⟨_, rfl⟩
      rw [hNN] at h60 HN HN2
      rw [hNN] at HVA HVB hX1 hX2
      rw [hNN]
      generalize hRR : risP (N : Int) (-1) vs = R at hX1 hX2
      have HR := kide hRR
      have HX1 := kide hX1
      have HX2 := kide hX2
      clear hA hB hr hs ht hv hn hn2 hm hb0 hxl hyl hxp hyp hX1 hX2 hNN hRR
      go_enter Try.func23, Try.ntmps23
      go_wp2_with fail
      generalize w.alloc (Obj.cells #[] 58) = w0 at *
      refine Calls.mono HVA.out ?_
      rintro e w1 ⟨rfl, hb1⟩
      have B1 := kide (B0.out.trans (hb1.mono B0.out.size))
      have E1 := kide (E0.out.later hb1)
      clear hb1
      go_wp2_with fail
      refine Calls.mono (HVB.out w1 B1.out) ?_
      rintro e w2 ⟨rfl, hb2⟩
      have B2 := kide (B1.out.trans (hb2.mono B1.out.size))
      have E2 := kide (E1.out.later hb2)
      clear hb2 E1 B1 E0 B0 HVA HVB
      go_wp2_with fail
      go_loopw [11] (fun i wr => ∃ (j : Nat) (last : Int), j ≤ m ∧ i = .int .i64 (j : Int) ∧ -1 ≤ last ∧ (j = 0 → last = -1) ∧ (0 < j → last = vs.getD (j - 1) 0) ∧ risP N last (vs.drop j) = R ∧ Below w2.heap.size w2 wr) (fun i _ => m - (intOf i).toNat)
      case atStart => exact ⟨0, -1, Nat.zero_le _, rfl, Int.le_refl _, fun _ => rfl, fun h => by omega, by simpa using HR.out, Below.refl _ _⟩
      case round =>
        obtain ⟨j, last, hj, rfl, hl0, hj0, hjs, hz, hbel⟩ := hrel
        have HB := kide hbel
        have p2 := HV.out.later (B2.out.trans (hbel.mono B2.out.size))
        by_cases hjl : j < m
        · have hjv : j < vs.length := by rw [HM.out]; exact hjl
          obtain ⟨-, hi64, h | ⟨b3, o3, rfl, hc3⟩⟩ := p2
          · subst h; simp at hjv
          have e3 := hc3 j hjv
          rw [risP_step hjv] at hz
          have hprev : 0 < j → _ := fun h => hc3 (j - 1) (by omega)
          generalize hx : vs.getD j 0 = x at *
          have HX := kide hx
          have j0 : (j : Int) < (m : Int) := by omega
          have HZJ := kide hz
          have HIN := kide (fun u => l1In_any x 0 ((N : Int) - 1) u)
          clear hc3 hi64 hz hx hbel hjv
          cases hd : decide (0 ≤ x ∧ x ≤ (N : Int) - 1) with
          | true =>
            rw [hd] at HIN
            obtain ⟨hx1, hx2⟩ := of_decide_eq_true hd
            clear hd
            cases j with
            | zero =>
              have hl := hj0 rfl
              subst hl
              have HNX : Hid (risP N x (vs.drop 1) = R) := by
                show _ = _
                have h := HZJ.out
                simpa [show (-1 : Int) < x by omega, show x < (N : Int) by omega] using h
              clear hprev hj0 hjs
              rw [Nat.add_zero] at e3
              go_wp2_with fail
              go_quiet ((go_at_call 48; exact Calls.quiet_of_same (HIN.out _)))
              go_wp2_with fail
              go_roundw
              case rel => exact ⟨1, x, by omega, by go_num, by omega, fun h => by omega, fun _ => by simpa using HX.out.symm, HNX.out, below_drewN HB.out _⟩
              case measure => simp [intOf]; omega
            | succ j =>
              have hl := hjs (by omega)
              have e4 := hprev (by omega)
              simp only [Nat.add_sub_cancel] at hl e4
              rw [← hl] at e4
              have j1 : (j : Int) < (m : Int) := by omega
              clear hprev hj0 hjs hl
              by_cases hlx : last < x
              · have HNX : Hid (risP N x (vs.drop (j + 1 + 1)) = R) := by
                  show _ = _
                  have h := HZJ.out
                  simpa [hlx, show x < (N : Int) by omega] using h
                go_wp2_with fail
                go_quiet ((go_at_call 48; exact Calls.quiet_of_same (HIN.out _)))
                go_wp2_with fail
                go_roundw
                case rel => exact ⟨j + 1 + 1, x, by omega, by go_num, by omega, fun h => by omega, fun _ => by simpa using HX.out.symm, HNX.out, below_drewN HB.out _⟩
                case measure => simp [intOf]; omega
              · have HF : Hid (R = false) := by have h := HZJ.out; simp [hlx] at h; exact h
                go_wp2_with fail
                go_quiet ((go_at_call 48; exact Calls.quiet_of_same (HIN.out _)))
                go_wp2_with fail
                go_returns
                have hq := below_drewN HB.out
                rw [HX1.out HF.out]
                exact ⟨_, [], rfl, E2.out.later (hq _), rfl, B2.out.trans ((hq _).mono B2.out.size)⟩
          | false =>
            rw [hd] at HIN
            have hin := of_decide_eq_false hd
            have HF : Hid (R = false) := by
              have h := HZJ.out
              by_cases h1 : last < x
              · have h2 : ¬ x < (N : Int) := by omega
                simp [h2] at h; exact h
              · simp [h1] at h; exact h
            clear hd hprev hj0 hjs hin
            go_wp2_with fail
            go_quiet ((go_at_call 48; exact Calls.quiet_of_same (HIN.out _)))
            go_wp2_with fail
            go_returns
            have hq := below_drewN HB.out
            rw [HX1.out HF.out]
            exact ⟨_, [], rfl, E2.out.later (hq _), rfl, B2.out.trans ((hq _).mono B2.out.size)⟩
        · have HRT : Hid (R = true) := by
            show _ = _
            rw [← hz, List.drop_eq_nil_of_le (by rw [HM.out]; omega)]
            rfl
          have HB2 := kide (B2.out.trans (hbel.mono B2.out.size))
          have HE2 := kide (E2.out.later hbel)
          clear hz hbel p2 hj0 hjs HB E2 B2
          go_wp2_with fail
          go_loopw [10, 12] (fun v q wr => ∃ (k : Nat) (l : List Bw), k ≤ N ∧ q = .int .i64 (k : Int) ∧ Bs wr w.heap.size v l ∧ l.map Bw.ct = mrgL k (xs.map Bw.ct) (ys.map Bw.ct) vs ∧ Below w.heap.size w wr) (fun _ q _ => N - (intOf q).toNat)
          case atStart => exact ⟨0, [], Nat.zero_le _, rfl, HE2.out, rfl, HB2.out⟩
          case round =>
            clear HB2 HE2
            obtain ⟨k, l, hk, rfl, hbs, hct, hbel⟩ := hrel
            have HB := kide hbel
            have HBS := kide hbs
            have HCT := kide hct
            by_cases hlt : k < N
            · obtain ⟨-, h | ⟨b6, o6, rfl, hcx⟩⟩ := HS.out.later hbel
              · have := HN.out; subst h; simp at this; omega
              obtain ⟨-, h | ⟨b7, o7, rfl, hcy⟩⟩ := HT.out.later hbel
              · have := HN2.out; subst h; simp at this; omega
              obtain ⟨x, gx⟩ : ∃ y, xs[k]? = some y := ⟨xs[k]'(by rw [HN.out]; exact hlt), List.getElem?_eq_getElem _⟩
              obtain ⟨y, gy⟩ : ∃ y, ys[k]? = some y := ⟨ys[k]'(by rw [HN2.out]; exact hlt), List.getElem?_eq_getElem _⟩
              obtain ⟨p0, p1, p2, -⟩ := hcx k x gx
              obtain ⟨r0, r1, r2, -⟩ := hcy k y gy
              have hx0 := HXP.out x (List.mem_of_getElem? gx)
              have hy0 := HYP.out y (List.mem_of_getElem? gy)
              have ex : (xs.map Bw.ct).getD k (0, []) = x.ct := by simp [List.getD, gx]
              have ey : (ys.map Bw.ct).getD k (0, []) = y.ct := by simp [List.getD, gy]
              obtain ⟨xd, xa, xc, xw⟩ := x
              obtain ⟨yd, ya, yc, yw⟩ := y
              simp only [] at p0 p1 p2 hx0 r0 r1 r2 hy0
              obtain ⟨-, -, h | ⟨xb, xo, rfl, -⟩⟩ := id p2
              · rw [h] at hx0; simp at hx0
              obtain ⟨-, -, h | ⟨yb, yo, rfl, -⟩⟩ := id r2
              · rw [h] at hy0; simp at hy0
              have i0 : (k : Int) < (N : Int) := by omega
              have XP := kide p2
              have YP := kide r2
              obtain ⟨xm, hxm⟩ : ∃ m, xw.length = m := ⟨_, rfl⟩
              obtain ⟨ym, hym⟩ : ∃ m, yw.length = m := ⟨_, rfl⟩
              rw [hxm] at p1
              rw [hym] at r1
              have XM := kide hxm
              have YM := kide hym
              have lb := block_lt_of_cell p0
              have lb2 := block_lt_of_cell r0
              have hll : l.length ≤ 1073741824 := by
                have h := congrArg List.length HCT.out
                simp [mrgL] at h
                omega
              have HAS := kide (fun u (hu : Below wr.heap.size wr u) => l1Has_any f c4 vs (k : Int) u (HV.out.later (hbel.trans (hu.mono hbel.size))))
              rw [HM.out] at HAS
              have HELX := kide ex
              have HELY := kide ey
              clear hcx hcy gx gy p2 r2 hbs hct hbel hxm hym hx0 hy0 ex ey
              by_cases hmem : (k : Int) ∈ vs
              · rw [decide_eq_true hmem] at HAS
                have HEL : Hid ((if (k : Int) ∈ vs then (ys.map Bw.ct).getD k (0, []) else (xs.map Bw.ct).getD k (0, [])) = (yd, yw)) := by show _ = _; rw [if_pos hmem]; exact HELY.out
                clear hmem
                have hba : Below wr.heap.size wr (wr.alloc (Obj.cells #[Value.int .i64 yd, Value.slice (some ⟨yb, yo, none⟩) ym yc] 58)) := (Below.refl _ _).alloc (Nat.le_refl _) _
                go_wp2_with fail
                refine Calls.mono (HAS.out _ ((Below.refl _ _).alloc (Nat.le_refl _) _)) ?_
                rintro e w3 ⟨rfl, hw3⟩
                subst hw3
                go_wp2_with fail
                refine Calls.mono (l8CopyG yd yb yo yc ym yw _ (YP.out.later hba) YM.out) ?_
                rintro e w4 ⟨a2, c2, rfl, hn2, hb2⟩
                have HW1 := kide (hba.trans (hb2.mono hba.size))
                have HN2 := kide (hn2.mono hba.size)
                clear hn2 hb2 hba
                have hb3 : Below w4.heap.size w4 (w4.alloc (Obj.cells #[Value.int .i64 yd, Value.slice a2 ym c2] 58)) := (Below.refl _ _).alloc (Nat.le_refl _) _
                have q0 : (w4.alloc (Obj.cells #[Value.int .i64 yd, Value.slice a2 ym c2] 58)).cell? ⟨w4.heap.size, 0, none⟩ = some (.int .i64 yd) := by simp
                have q1 : (w4.alloc (Obj.cells #[Value.int .i64 yd, Value.slice a2 ym c2] 58)).cell? ⟨w4.heap.size, 1, none⟩ = some (.slice a2 ym c2) := by simp
                have HW3 := kide (HW1.out.trans (hb3.mono HW1.out.size))
                have HN3 := kide (HN2.out.later hb3)
                go_wp2_with (at_builtin; refine wpList_appB2 rfl _ _ rfl w.heap.size u10 l ⟨yd, a2, c2, yw⟩ (by first | rfl | simp [Act.eval]) (HBS.out.row.later HW3.out) w4.heap.size 1 (by first | rfl | simp [Act.eval]) q0 (by rw [YM.out]; exact q1) hll (Nat.le_trans HB.out.size HW3.out.size) ?_)
                intro g cap w5 ho5 hg5
                have HBS5 := kide (HBS.out.app HW3.out HB.out.size (y := ⟨yd, a2, c2, yw⟩) HN3.out hg5 ho5)
                have HB5 : Hid (Below w.heap.size w w5) := Below.grown (HB.out.trans (HW3.out.mono HB.out.size)) hg5 (Nat.le_trans HB.out.size HW3.out.size) (fun j hj => (HBS.out.row.lt hj).1)
                clear ho5 hg5 q0 q1 hb3
                go_wp2_with fail
                go_roundw
                case rel =>
                  refine ⟨k + 1, l ++ [⟨yd, a2, c2, yw⟩], by omega, by go_num, HBS5.out, ?_, HB5.out⟩
                  rw [List.map_append, HCT.out, mrgL_snoc, HEL.out]
                  rfl
                case measure => simp [intOf]; omega
              · rw [decide_eq_false hmem] at HAS
                have HEL : Hid ((if (k : Int) ∈ vs then (ys.map Bw.ct).getD k (0, []) else (xs.map Bw.ct).getD k (0, [])) = (xd, xw)) := by show _ = _; rw [if_neg hmem]; exact HELX.out
                clear hmem
                have hba : Below wr.heap.size wr (wr.alloc (Obj.cells #[Value.int .i64 xd, Value.slice (some ⟨xb, xo, none⟩) xm xc] 58)) := (Below.refl _ _).alloc (Nat.le_refl _) _
                go_wp2_with fail
                refine Calls.mono (HAS.out _ ((Below.refl _ _).alloc (Nat.le_refl _) _)) ?_
                rintro e w3 ⟨rfl, hw3⟩
                subst hw3
                go_wp2_with fail
                refine Calls.mono (l8CopyG xd xb xo xc xm xw _ (XP.out.later hba) XM.out) ?_
                rintro e w4 ⟨a2, c2, rfl, hn2, hb2⟩
                have HW1 := kide (hba.trans (hb2.mono hba.size))
                have HN2 := kide (hn2.mono hba.size)
                clear hn2 hb2 hba
                have hb3 : Below w4.heap.size w4 (w4.alloc (Obj.cells #[Value.int .i64 xd, Value.slice a2 xm c2] 58)) := (Below.refl _ _).alloc (Nat.le_refl _) _
                have q0 : (w4.alloc (Obj.cells #[Value.int .i64 xd, Value.slice a2 xm c2] 58)).cell? ⟨w4.heap.size, 0, none⟩ = some (.int .i64 xd) := by simp
                have q1 : (w4.alloc (Obj.cells #[Value.int .i64 xd, Value.slice a2 xm c2] 58)).cell? ⟨w4.heap.size, 1, none⟩ = some (.slice a2 xm c2) := by simp
                have HW3 := kide (HW1.out.trans (hb3.mono HW1.out.size))
                have HN3 := kide (HN2.out.later hb3)
                go_wp2_with (at_builtin; refine wpList_appB2 rfl _ _ rfl w.heap.size u10 l ⟨xd, a2, c2, xw⟩ (by first | rfl | simp [Act.eval]) (HBS.out.row.later HW3.out) w4.heap.size 1 (by first | rfl | simp [Act.eval]) q0 (by rw [XM.out]; exact q1) hll (Nat.le_trans HB.out.size HW3.out.size) ?_)
                intro g cap w5 ho5 hg5
                have HBS5 := kide (HBS.out.app HW3.out HB.out.size (y := ⟨xd, a2, c2, xw⟩) HN3.out hg5 ho5)
                have HB5 : Hid (Below w.heap.size w w5) := Below.grown (HB.out.trans (HW3.out.mono HB.out.size)) hg5 (Nat.le_trans HB.out.size HW3.out.size) (fun j hj => (HBS.out.row.lt hj).1)
                clear ho5 hg5 q0 q1 hb3
                go_wp2_with fail
                go_roundw
                case rel =>
                  refine ⟨k + 1, l ++ [⟨xd, a2, c2, xw⟩], by omega, by go_num, HBS5.out, ?_, HB5.out⟩
                  rw [List.map_append, HCT.out, mrgL_snoc, HEL.out]
                  rfl
                case measure => simp [intOf]; omega
            · have hkn : k = N := by omega
              have HE : Hid (l.map Bw.ct = mrgL N (xs.map Bw.ct) (ys.map Bw.ct) vs) := by
                show _ = _
                rw [hct, hkn]
              clear hbs hct hbel
              go_wp2_with fail
              go_returns
              rw [HX2.out HRT.out]
              exact ⟨_, l, rfl, HBS.out, HE.out, HB.out⟩

end Go.Proofs.Ytkffjdicmendkaa
