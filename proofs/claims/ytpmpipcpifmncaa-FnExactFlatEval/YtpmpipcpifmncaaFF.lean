/- What the program's FlatEval answers. -/
import Derived.Test.YtpmpipcpifmncaaFE
namespace Go.Proofs.Ytpmpipcpifmncaa
set_option linter.unusedVariables false
set_option linter.unusedSimpArgs false
open Go.RowKit

/-- The words ys hold the bits of the first k segments. -/
def Fill (vs : List Wr) (fs : List Sc) (N k : Nat) (ys : List Nat) : Prop := ys.length = N ∧ (∀ x ∈ ys, x < 18446744073709551616) ∧ ∀ j, tb ys j = decide ((flatL vs (fs.take k)).getD j 0 = 1)
theorem Fill.zero (vs : List Wr) (fs : List Sc) (N : Nat) : Fill vs fs N 0 (List.replicate N 0) := ⟨by simp, fun x h => by simp at h; omega, fun j => by rw [tb_zero]; simp [flatL]⟩
theorem segL_get (vs : List Wr) (s : Sc) (j : Nat) : (segL vs s).getD j 0 = if j < s.wd.toNat then (segB vs s j).toNat else 0 := by
  unfold segL
  by_cases h : j < s.wd.toNat
  · simp [List.getD, h]
  · simp [List.getD, h]
theorem Fill.step {vs : List Wr} {fs : List Sc} {N k P : Nat} {zs ws : List Nat} {s : Sc} (h : Fill vs fs N k zs) (hs : fs[k]? = some s) (hP : (flatL vs (fs.take k)).length = P) (hw : rightB s.wd ws = true) (hx : ∀ x ∈ ws, x < 18446744073709551616) (hb : ∀ i : Nat, (i : Int) < s.wd → tb ws i = segB vs s i) (hN : P + s.wd.toNat ≤ 64 * N) :
    Fill vs fs N (k + 1) (putTo zs ws (P / 64) (P % 64) ws.length) := by
  obtain ⟨h1, h2, h3⟩ := h
  refine ⟨by rw [putTo_len, h1], putTo_lt _ _ _ _ _ h2 hx, fun j => ?_⟩
  obtain ⟨V, hV⟩ := Int.eq_ofNat_of_zero_le (show 0 ≤ s.wd by have := right_W hw; omega)
  rw [hV] at hw
  rw [hV, Int.toNat_natCast] at hN
  rw [tb_put_right hw hx zs P (by rw [h1]; exact hN), h3, flatL_snoc vs fs hs]
  by_cases hj : j < P
  · have e1 : (flatL vs (fs.take k) ++ segL vs s).getD j 0 = (flatL vs (fs.take k)).getD j 0 := by
      simp only [List.getD]
      rw [List.getElem?_append_left (by omega)]
    rw [e1]
    simp [show ¬ P ≤ j by omega]
  · have e1 : (flatL vs (fs.take k) ++ segL vs s).getD j 0 = (segL vs s).getD (j - P) 0 := by
      simp only [List.getD]
      rw [List.getElem?_append_right (by omega), hP]
    have e2 : (flatL vs (fs.take k)).getD j 0 = 0 := by
      simp only [List.getD]
      rw [List.getElem?_eq_none (by omega)]; rfl
    rw [e1, e2, segL_get, hV, Int.toNat_natCast]
    by_cases hk : j - P < V
    · rw [if_pos hk, hb (j - P) (by omega)]
      cases segB vs s (j - P) <;> simp [show P ≤ j by omega]
    · rw [if_neg hk, tb_out hw (j - P) (by omega)]
      simp
theorem Fill.pack {vs : List Wr} {fs : List Sc} {N : Nat} {ys : List Nat} (h : Fill vs fs N fs.length ys) (hN : N = ((flatL vs fs).length + 63) / 64) : ys = Go.Proofs.Ytpmpipcpifmncaa.pack (flatL vs fs) := by
  obtain ⟨h1, h2, h3⟩ := h
  rw [List.take_length] at h3
  exact eq_pack (flatL_le vs fs) (by rw [h1, hN]) h2 fun i _ => h3 i

theorem Own.later2 {w w' : World} {g : Nat} {xs : List Nat} (h : Own w g xs) (hb : Below w.heap.size w w') : Own w' g xs := by
  unfold Own
  rw [hb.block g h.lt]
  exact h
theorem Bz.grown {w w' : World} {b g : Nat} {cs : Array Value} {t : TypeId} (h : Bz w b cs t) (hg : w.grownBy w' (some g)) (hn : b ≠ g) : Bz w' b cs t := by
  unfold Bz
  rw [hg.block b h.lt (by simpa using hn)]
  exact h
theorem bz_own {w : World} {b : Nat} {cs : Array Value} {t : TypeId} {xs : List Nat} (h : Bz w b cs t) (ho : Own w b xs) (ht : t ≠ 101 := by decide) : False := by
  unfold Bz at h
  unfold Own at ho
  rw [h] at ho
  cases ho
  exact ht rfl
theorem seg_far {w : World} {a : Option Addr} {ws : List Nat} {g : Nat} (h : Rd w a ws) (hne : ws ≠ []) (hg : w.heap.size ≤ g) : ∀ x, a = some x → x.block ≠ g := by
  intro x hx
  rcases h.2.2 with h0 | ⟨b, o, e, hc⟩
  · exact absurd h0 hne
  · rw [e] at hx
    cases hx
    have h1 := hc 0 (by cases ws with | nil => exact absurd rfl hne | cons _ _ => simp)
    have := block_lt_of_cell h1
    simp only
    simp at this
    omega

set_option maxHeartbeats 1000000 in
theorem implFlev_any (da va fa : Option Addr) (dc vc fc n nf : Nat) (ds : List Dc) (vals : List Bw) (xs : List Sg) (w : World) (hd : RdD w da ds) (hv : RdW w va vals) (hn : vals.length = n) (hr : RdS w fa xs) (hnf : xs.length = nf) :
    Calls Try.prog 13 #[.slice da ds.length dc, .slice va n vc, .slice fa nf fc] w (RetB w (flevR ds (vals.map Bw.ct) (xs.map Sg.ct))) := by
  have hb0 : Below w.heap.size w (w.alloc (Obj.cells #[Value.int .i64 0, Value.slice none 0 0] 30)) := (Below.refl _ _).alloc (Nat.le_refl _) _
  have XR0 := Bz.new w #[Value.int .i64 0, Value.slice none 0 0] 30
  have HV := kide (implValues_any da va dc vc ds vals (w.alloc (Obj.cells #[Value.int .i64 0, Value.slice none 0 0] 30)) (hd.later hb0) (hv.later hb0) n hn)
  by_cases hval : valR ds (vals.map Bw.ct) = true
  · rw [hval] at HV
    obtain ⟨hD, -, -⟩ := valR_iff.1 hval
    have HF := kide (fun u (hu : Below w.heap.size w u) => formOk_any fa da fc dc nf ds xs u (hd.later hu) (hr.later hu) hnf hD)
    by_cases hf : formR ds (xs.map Sg.ct) = true
    · rw [hf] at HF
      obtain ⟨hall, hs1, hs2, hl2⟩ := formR_sum hD hf
      have hwx : ∀ x ∈ xs, 1 ≤ x.ct.wd ∧ x.ct.wd ≤ 4096 := fun x hx => (hall x.ct (List.mem_map_of_mem hx)).2
      have HFW := kide (fun u (hu : Below w.heap.size w u) => formWidth_any fa fc nf xs u (hr.later hu) hnf (by simp at hl2; omega) hwx)
      obtain ⟨V, hV⟩ := Int.eq_ofNat_of_zero_le (show 0 ≤ sumS (xs.map Sg.ct) by omega)
      rw [hV] at HFW
      have hfl := flatL_len (vals.map Bw.ct) (xs.map Sg.ct) (fun s hs => by have := hall s hs; omega)
      rw [hV] at hfl
      have HRES : Hid (flevR ds (vals.map Bw.ct) (xs.map Sg.ct) = ((V : Int), pack (flatL (vals.map Bw.ct) (xs.map Sg.ct)), true)) := by
        show _ = _
        rw [flevR, if_pos ⟨hval, hf⟩, hV]
      rw [HRES.out]
      have BW0 := kide hb0
      have XR := kide XR0
      have hV1 : 1 ≤ V := by omega
      have hV2 : V ≤ 4096 := by omega
      have HALL := kide hall
      have HVAL := kide hval
      have HHV := kide hv
      have HHR := kide hr
      have HFL := kide hfl
      have HN := kide hn
      have HNF := kide hnf
      have HSV := kide hV
      have hnf2 : nf ≤ 2000 := by simp at hl2; omega
      generalize hRR : ((V : Int), pack (flatL (vals.map Bw.ct) (xs.map Sg.ct)), true) = RR
      have HRR := kide hRR
      clear hRR HRES hb0 XR0 hd hv hr hn hnf hval hf hall hwx hfl hs1 hs2 hl2 hV hD
      go_enter Try.func13, Try.ntmps13
      go_wp2_with fail
      refine Calls.mono HV.out ?_
      rintro e w1 ⟨rfl, hb1⟩
      have B1 := kide (BW0.out.trans (hb1.mono BW0.out.size))
      have X1 := kide (XR.out.later hb1)
      clear hb1 HV BW0 XR
      go_wp2_with fail
      refine Calls.mono (HF.out w1 B1.out) ?_
      rintro e w2 ⟨rfl, hb2⟩
      have B2 := kide (B1.out.trans (hb2.mono B1.out.size))
      have X2 := kide (X1.out.later hb2)
      clear hb2 HF B1 X1
      go_wp2_with fail
      refine Calls.mono (HFW.out w2 B2.out) ?_
      rintro e w3 ⟨rfl, hb3⟩
      have B3 := kide (B2.out.trans (hb3.mono B2.out.size))
      have X3 := kide (X2.out.later hb3)
      clear hb3 HFW B2 X2
      go_wp2_with fail
      refine Calls.mono (zeroBits_any V w3 hV1 hV2) ?_
      rintro e w4 ⟨g, rfl, hg, ho4, hb4⟩
      have B4 := kide (B3.out.trans (hb4.mono B3.out.size))
      have X4 := kide (X3.out.later hb4)
      have hgW : w.heap.size < g := by have := X3.out.lt; omega
      clear hb4 B3 X3
      generalize hNN : (V + 63) / 64 = N at *
      have HNN := kide hNN
      clear hNN
      go_wp2_with fail
      have hgw := Nat.le_trans B4.out.size (Nat.le_refl _)
      have B5 := kide (B4.out.alloc B4.out.size (Obj.cells #[Value.int .i64 (V : Int), Value.slice (some ⟨g, 0, none⟩) N N] 30))
      have X5 := kide (X4.out.later ((Below.refl _ _).alloc (Nat.le_refl _) (Obj.cells #[Value.int .i64 (V : Int), Value.slice (some ⟨g, 0, none⟩) N N] 30)))
      have R5 := kide (Bz.new w4 #[Value.int .i64 (V : Int), Value.slice (some ⟨g, 0, none⟩) N N] 30)
      have O5 := kide (ho4.alloc (Obj.cells #[Value.int .i64 (V : Int), Value.slice (some ⟨g, 0, none⟩) N N] 30))
      clear ho4 B4 X4
      generalize w4.alloc (Obj.cells #[Value.int .i64 (V : Int), Value.slice (some ⟨g, 0, none⟩) N N] 30) = w5 at *
      obtain ⟨rb, hrb⟩ : ∃ rb, w4.heap.size = rb := ⟨_, rfl⟩
      rw [hrb] at R5
      simp only [hrb]
      clear hrb hg hgw
      obtain ⟨vb, hvb⟩ : ∃ vb, w.heap.size = vb := ⟨_, rfl⟩
      rw [hvb] at X5 hgW
      simp only [hvb]
      have HVB := kide hvb
      clear hvb
      go_loopw [9, 28] (fun q i wr => ∃ k P ys, k ≤ nf ∧ i = .int .i64 (k : Nat) ∧ q = .int .i64 ((P : Nat) : Int) ∧ (flatL (vals.map Bw.ct) ((xs.map Sg.ct).take k)).length = P ∧ Fill (vals.map Bw.ct) (xs.map Sg.ct) N k ys ∧ Own wr g ys ∧ Bz wr rb #[Value.int .i64 (V : Int), Value.slice (some ⟨g, 0, none⟩) N N] 30 ∧ Bz wr vb #[Value.int .i64 0, Value.slice none 0 0] 30 ∧ Below w.heap.size w wr) (fun _ i _ => nf - (intOf i).toNat)
      case atStart => exact ⟨0, 0, _, Nat.zero_le _, rfl, rfl, by simp [flatL], Fill.zero _ _ _, O5.out, R5.out, X5.out, B5.out⟩
      case round =>
        obtain ⟨k, P, ys, hk, rfl, rfl, hPl, hfill, hown, hR, hX, hB⟩ := hrel
        clear B5 X5 R5 O5
        have HP := kide hPl
        have HFI := kide hfill
        have HO := kide hown
        have HRb := kide hR
        have HX := kide hX
        have HBW := kide hB
        clear hPl hfill hown hX hR
        by_cases hlt : k < nf
        · obtain ⟨⟨s, a1, c1⟩, gx⟩ : ∃ x, xs[k]? = some x := ⟨xs[k]'(by rw [HNF.out]; exact hlt), List.getElem?_eq_getElem _⟩
          have gs : (xs.map Sg.ct)[k]? = some s := by rw [List.getElem?_map, gx]; rfl
          obtain ⟨b2, o2, rfl, hc2⟩ : ∃ b o, fa = some ⟨b, o, none⟩ ∧ ∀ i n, xs[i]? = some n → SgAt w b (o + i * 5) n := by
            rcases HHR.out.2 with h | h
            · rw [h] at gx; simp at gx
            · exact h
          obtain ⟨⟨p0, p1, p2, p3, p4⟩, hsr, hi64⟩ := (hc2 k _ gx).later hB
          have hsw := (hc2 k _ gx).2.1
          obtain ⟨hok, hw1, hw2⟩ := HALL.out s (List.mem_of_getElem? gs)
          have h64s := hi64.2.1
          have HSW := kide hsw
          have hPS : ((P : Nat) : Int) = sumS ((xs.map Sg.ct).take k) := by
            rw [← flatL_len (vals.map Bw.ct) _ (fun s hs => by have := HALL.out s (List.mem_of_mem_take hs); omega), HP.out]
          have hst := sumS_take (cs := xs.map Sg.ct) (k := k) (c := s) gs
          have htk := take_sum (fs := xs.map Sg.ct) (fun s hs => (HALL.out s hs).2.1) (k + 1)
          rw [hst, ← hPS, HSV.out] at htk
          have HSG := kide (fun u (hu : Below w.heap.size w u) (hr9 : Rd u a1 s.ws) => segBits_any va vc n ds vals ⟨s, a1, c1⟩ u (HHV.out.later hu) HN.out HVAL.out hok hr9 h64s)
          obtain ⟨v, lo, wd, bw, ws⟩ := s
          simp only [Sg.hd] at p0 p1 p2 p3 p4 hsr hok hw1 hw2 HSG HSW htk hst
          obtain ⟨m, rfl⟩ := Int.eq_ofNat_of_zero_le (show 0 ≤ wd by omega)
          have HOK := kide hok
          have GS := kide gs
          have HSR := kide hsr
          have hb6 : Below wr.heap.size wr (wr.alloc (Obj.cells #[Value.int .i64 v, Value.int .i64 lo, Value.int .i64 (m : Int), Value.int .i64 bw, Value.slice a1 ws.length c1] 80)) := (Below.refl _ _).alloc (Nat.le_refl _) _
          have S6 := kide (Bz.new wr #[Value.int .i64 v, Value.int .i64 lo, Value.int .i64 (m : Int), Value.int .i64 bw, Value.slice a1 ws.length c1] 80)
          have R6 := kide (HRb.out.later hb6)
          have X6 := kide (HX.out.later hb6)
          have O6 := kide (HO.out.alloc (Obj.cells #[Value.int .i64 v, Value.int .i64 lo, Value.int .i64 (m : Int), Value.int .i64 bw, Value.slice a1 ws.length c1] 80))
          have B6 := kide (hB.trans (hb6.mono hB.size))
          have SR6 := kide (hsr.later hb6)
          have i0 : (k : Int) < (nf : Int) := by omega
          generalize hwl : ws.length = wl at *
          clear hi64 h64s hc2 gx gs hsr hsw hok hPS hst hb6 hB hwl HO HRb HX HBW HSR
          go_wp2_with fail
          generalize wr.alloc (Obj.cells #[Value.int .i64 v, Value.int .i64 lo, Value.int .i64 (m : Int), Value.int .i64 bw, Value.slice a1 wl c1] 80) = w6 at *
          obtain ⟨eb, heb⟩ : ∃ eb, wr.heap.size = eb := ⟨_, rfl⟩
          rw [heb] at S6
          simp only [heb]
          clear heb p0 p1 p2 p3 p4
          refine wp_region_x (SA := fun _ => False) (SB := fun uu => uu.cell? ⟨rb, 0, none⟩ = some (Value.int .i64 (V : Int)) ∧ uu.cell? ⟨rb, 1, none⟩ = some (Value.slice (some ⟨g, 0, none⟩) N N) ∧ uu.cell? ⟨eb, 0, none⟩ = some (Value.int .i64 v) ∧ uu.cell? ⟨eb, 1, none⟩ = some (Value.int .i64 lo) ∧ uu.cell? ⟨eb, 2, none⟩ = some (Value.int .i64 (m : Int)) ∧ uu.cell? ⟨eb, 3, none⟩ = some (Value.int .i64 bw) ∧ uu.cell? ⟨eb, 4, none⟩ = some (Value.slice a1 wl c1)) (k := 999) (by kernel_rfl) ?_
          have hbd : Below w6.heap.size w6 w6.drew := (Below.refl _ _).drew
          have S_0 := kide (S6.out.later hbd)
          have R_0 := kide (R6.out.later hbd)
          have X_0 := kide (X6.out.later hbd)
          have SR_0 := kide (SR6.out.later hbd)
          have O_0 := kide (O6.out.later2 hbd)
          have B_0 := kide (B6.out.trans (hbd.mono B6.out.size))
          clear hbd S6 R6 X6 SR6 O6 B6
          generalize w6.drew = u0 at *
          have c0_0 : u0.cell? ⟨rb, 0, none⟩ = some (Value.int .i64 (V : Int)) := R_0.out.cell 0
          have c1_0 : u0.cell? ⟨rb, 1, none⟩ = some (Value.slice (some ⟨g, 0, none⟩) N N) := R_0.out.cell 1
          have c2_0 : u0.cell? ⟨eb, 0, none⟩ = some (Value.int .i64 v) := S_0.out.cell 0
          have c3_0 : u0.cell? ⟨eb, 1, none⟩ = some (Value.int .i64 lo) := S_0.out.cell 1
          have c4_0 : u0.cell? ⟨eb, 2, none⟩ = some (Value.int .i64 (m : Int)) := S_0.out.cell 2
          have c5_0 : u0.cell? ⟨eb, 3, none⟩ = some (Value.int .i64 bw) := S_0.out.cell 3
          have c6_0 : u0.cell? ⟨eb, 4, none⟩ = some (Value.slice a1 wl c1) := S_0.out.cell 4
          have hs0 : Hid ((fun uu => uu.cell? ⟨rb, 0, none⟩ = some (Value.int .i64 (V : Int)) ∧ uu.cell? ⟨rb, 1, none⟩ = some (Value.slice (some ⟨g, 0, none⟩) N N) ∧ uu.cell? ⟨eb, 0, none⟩ = some (Value.int .i64 v) ∧ uu.cell? ⟨eb, 1, none⟩ = some (Value.int .i64 lo) ∧ uu.cell? ⟨eb, 2, none⟩ = some (Value.int .i64 (m : Int)) ∧ uu.cell? ⟨eb, 3, none⟩ = some (Value.int .i64 bw) ∧ uu.cell? ⟨eb, 4, none⟩ = some (Value.slice a1 wl c1)) u0) := ⟨c0_0, c1_0, c2_0, c3_0, c4_0, c5_0, c6_0⟩
          try go_simp
          refine wpAnyX_both (T := (fun uu => uu.cell? ⟨rb, 0, none⟩ = some (Value.int .i64 (V : Int)) ∧ uu.cell? ⟨rb, 1, none⟩ = some (Value.slice (some ⟨g, 0, none⟩) N N) ∧ uu.cell? ⟨eb, 0, none⟩ = some (Value.int .i64 v) ∧ uu.cell? ⟨eb, 1, none⟩ = some (Value.int .i64 lo) ∧ uu.cell? ⟨eb, 2, none⟩ = some (Value.int .i64 (m : Int)) ∧ uu.cell? ⟨eb, 3, none⟩ = some (Value.int .i64 bw) ∧ uu.cell? ⟨eb, 4, none⟩ = some (Value.slice a1 wl c1))) (i := 0) (v := Value.agg #[Value.int .i64 (V : Int), Value.slice (some ⟨g, 0, none⟩) N N]) rfl (by kernel_rfl) (by kernel_rfl) (by kernel_rfl) (fun _ _ _ h => by first | exact h | exact h.elim) (by decide) (fun _ h => h.elim) (fun _ h => h) (Sx.behind (by kernel_rfl) hs0.out) (Or.inl ⟨by rfl, fun uu hu => by obtain ⟨e0, e1, e2, e3, e4, e5, e6⟩ := hu; go_simp⟩) ?_
          try go_simp
          refine wpAnyX_both (T := (fun _ => True)) (i := 1) (v := Value.slice va n vc) rfl (by kernel_rfl) (by kernel_rfl) (by kernel_rfl) (fun _ _ _ h => by first | exact h | exact h.elim) (by decide) (fun _ _ => trivial) (fun _ _ => trivial) (Sx.behind (by kernel_rfl) hs0.out) (Or.inl ⟨by rfl, fun uu hu => by go_simp⟩) ?_
          try go_simp
          refine wpAnyX_both (T := (fun uu => uu.cell? ⟨rb, 0, none⟩ = some (Value.int .i64 (V : Int)) ∧ uu.cell? ⟨rb, 1, none⟩ = some (Value.slice (some ⟨g, 0, none⟩) N N) ∧ uu.cell? ⟨eb, 0, none⟩ = some (Value.int .i64 v) ∧ uu.cell? ⟨eb, 1, none⟩ = some (Value.int .i64 lo) ∧ uu.cell? ⟨eb, 2, none⟩ = some (Value.int .i64 (m : Int)) ∧ uu.cell? ⟨eb, 3, none⟩ = some (Value.int .i64 bw) ∧ uu.cell? ⟨eb, 4, none⟩ = some (Value.slice a1 wl c1))) (i := 2) (v := Value.agg #[Value.int .i64 v, Value.int .i64 lo, Value.int .i64 (m : Int), Value.int .i64 bw, Value.slice a1 wl c1]) rfl (by kernel_rfl) (by kernel_rfl) (by kernel_rfl) (fun _ _ _ h => by first | exact h | exact h.elim) (by decide) (fun _ h => h.elim) (fun _ h => h) (Sx.behind (by kernel_rfl) hs0.out) (Or.inl ⟨by rfl, fun uu hu => by obtain ⟨e0, e1, e2, e3, e4, e5, e6⟩ := hu; go_simp⟩) ?_
          try go_simp
          refine wpAnyX_both (T := (fun _ => True)) (i := 4) (v := Value.int .i64 (P : Int)) rfl (by kernel_rfl) (by kernel_rfl) (by kernel_rfl) (fun _ _ _ h => by first | exact h | exact h.elim) (by decide) (fun _ _ => trivial) (fun _ _ => trivial) (Sx.behind (by kernel_rfl) hs0.out) (Or.inl ⟨by rfl, fun uu hu => by go_simp⟩) ?_
          try go_simp
          refine wpAnyX_ready (rs := [3]) (by kernel_rfl) (by simp) (AllX.cons rfl (fun K hK => ?_) AllX.nil)
          go_simp
          refine Calls.mono (HSG.out u0 B_0.out SR_0.out) ?_
          rintro e u1 ⟨a5, c5, ws5, rfl, hrt, hbt, hrd, hal, hb⟩
          have O_1 := kide (O_0.out.later2 hb)
          have R_1 := kide (R_0.out.later hb)
          have S_1 := kide (S_0.out.later hb)
          have X_1 := kide (X_0.out.later hb)
          have B_1 := kide (B_0.out.trans (hb.mono B_0.out.size))
          have HRT := kide hrt
          have HBT := kide hbt
          have HRD := kide hrd
          have HAL : Hid (∀ x, a5 = some x → x.block ≠ g) := by
            show ∀ _, _
            intro x hx
            rcases hal with ⟨h8, h9⟩ | h9
            · rw [h8] at hx; exact seg_far HSW.out h9 (by have := HVB.out; omega) x hx
            · have h7 := h9 x hx; have h6 := O_0.out.lt; omega
          clear hrt hbt hrd hal hb
          have c0_1 : u1.cell? ⟨rb, 0, none⟩ = some (Value.int .i64 (V : Int)) := R_1.out.cell 0
          have c1_1 : u1.cell? ⟨rb, 1, none⟩ = some (Value.slice (some ⟨g, 0, none⟩) N N) := R_1.out.cell 1
          have c2_1 : u1.cell? ⟨eb, 0, none⟩ = some (Value.int .i64 v) := S_1.out.cell 0
          have c3_1 : u1.cell? ⟨eb, 1, none⟩ = some (Value.int .i64 lo) := S_1.out.cell 1
          have c4_1 : u1.cell? ⟨eb, 2, none⟩ = some (Value.int .i64 (m : Int)) := S_1.out.cell 2
          have c5_1 : u1.cell? ⟨eb, 3, none⟩ = some (Value.int .i64 bw) := S_1.out.cell 3
          have c6_1 : u1.cell? ⟨eb, 4, none⟩ = some (Value.slice a1 wl c1) := S_1.out.cell 4
          have hs1 : Hid ((fun uu => uu.cell? ⟨rb, 0, none⟩ = some (Value.int .i64 (V : Int)) ∧ uu.cell? ⟨rb, 1, none⟩ = some (Value.slice (some ⟨g, 0, none⟩) N N) ∧ uu.cell? ⟨eb, 0, none⟩ = some (Value.int .i64 v) ∧ uu.cell? ⟨eb, 1, none⟩ = some (Value.int .i64 lo) ∧ uu.cell? ⟨eb, 2, none⟩ = some (Value.int .i64 (m : Int)) ∧ uu.cell? ⟨eb, 3, none⟩ = some (Value.int .i64 bw) ∧ uu.cell? ⟨eb, 4, none⟩ = some (Value.slice a1 wl c1)) u1) := ⟨c0_1, c1_1, c2_1, c3_1, c4_1, c5_1, c6_1⟩
          refine hK _ _ (Sx.behind (by kernel_rfl) hs1.out) ?_
          clear hK K
          try go_simp
          refine wpAnyX_ready (rs := [5]) (by kernel_rfl) (by simp) (AllX.cons rfl (fun K hK => ?_) AllX.nil)
          go_simp
          obtain ⟨hf1, hf2, hf3⟩ := HFI.out
          have hrw := right_W HRT.out
          have hpn : P + m ≤ 64 * N := by have := HNN.out; omega
          have hput := putBits_any (V : Int) (m : Int) g N c5 P a5 ys ws5 u1 O_1.out HRD.out hf2 (by omega) (by have := HNN.out; omega) (by simp only [] at hrw; omega) (by rw [hf1]; exact put_fit HRT.out HRD.out.2.1 _ _ hpn) HAL.out
          rw [hf1] at hput
          refine Calls.mono hput ?_
          rintro e u2 ⟨rfl, ho9, hg9⟩
          have NF := kide (HFI.out.step GS.out HP.out HRT.out HRD.out.2.1 HBT.out (by simpa using hpn))
          have O_2 := kide ho9
          have R_2 := kide (R_1.out.grown hg9 (by rintro rfl; exact bz_own R_1.out O_1.out))
          have S_2 := kide (S_1.out.grown hg9 (by rintro rfl; exact bz_own S_1.out O_1.out))
          have X_2 := kide (X_1.out.grown hg9 (by omega))
          have B_2 := kide (Below.grown B_1.out hg9 B_1.out.size (fun j hj => by cases hj; have := HVB.out; omega))
          clear hf1 hf2 hf3 hrw hpn hput ho9 hg9
          have c0_2 : u2.cell? ⟨rb, 0, none⟩ = some (Value.int .i64 (V : Int)) := R_2.out.cell 0
          have c1_2 : u2.cell? ⟨rb, 1, none⟩ = some (Value.slice (some ⟨g, 0, none⟩) N N) := R_2.out.cell 1
          have c2_2 : u2.cell? ⟨eb, 0, none⟩ = some (Value.int .i64 v) := S_2.out.cell 0
          have c3_2 : u2.cell? ⟨eb, 1, none⟩ = some (Value.int .i64 lo) := S_2.out.cell 1
          have c4_2 : u2.cell? ⟨eb, 2, none⟩ = some (Value.int .i64 (m : Int)) := S_2.out.cell 2
          have c5_2 : u2.cell? ⟨eb, 3, none⟩ = some (Value.int .i64 bw) := S_2.out.cell 3
          have c6_2 : u2.cell? ⟨eb, 4, none⟩ = some (Value.slice a1 wl c1) := S_2.out.cell 4
          have hs2 : Hid ((fun uu => uu.cell? ⟨rb, 0, none⟩ = some (Value.int .i64 (V : Int)) ∧ uu.cell? ⟨rb, 1, none⟩ = some (Value.slice (some ⟨g, 0, none⟩) N N) ∧ uu.cell? ⟨eb, 0, none⟩ = some (Value.int .i64 v) ∧ uu.cell? ⟨eb, 1, none⟩ = some (Value.int .i64 lo) ∧ uu.cell? ⟨eb, 2, none⟩ = some (Value.int .i64 (m : Int)) ∧ uu.cell? ⟨eb, 3, none⟩ = some (Value.int .i64 bw) ∧ uu.cell? ⟨eb, 4, none⟩ = some (Value.slice a1 wl c1)) u2) := ⟨c0_2, c1_2, c2_2, c3_2, c4_2, c5_2, c6_2⟩
          refine hK _ _ (Sx.behind (by kernel_rfl) hs2.out) ?_
          clear hK K
          try go_simp
          refine wpAnyX_done (by kernel_rfl) ?_ _
          go_wp2_with fail
          go_roundw
          case rel => exact ⟨k + 1, P + m, _, by omega, by go_num, by first | rfl | simp, by rw [flatL_snoc _ _ GS.out, List.length_append, HP.out, segL_len]; simp, NF.out, O_2.out, R_2.out, X_2.out, B_2.out⟩
          case measure => simp [intOf]; omega
        · have ek : k = nf := by omega
          subst ek
          have hfl := HFI.out
          have hys : ys = pack (flatL (vals.map Bw.ct) (xs.map Sg.ct)) := by
            rw [show k = (xs.map Sg.ct).length by rw [List.length_map, HNF.out]] at hfl
            exact hfl.pack (by rw [← HNN.out]; have := HFL.out; congr 1; omega)
          have HQ : Hid (((V : Int), ys, true) = RR) := by
            show _ = _
            rw [hys, HRR.out]
          have HL := kide hfl.1
          have r0 := HRb.out.cell 0
          have r1 := HRb.out.cell 1
          have e0 := HX.out.cell 0
          have e1 := HX.out.cell 1
          have f0 := HX.out.froz 0
          have f1 := HX.out.froz 1
          simp at r0 r1 e0 e1
          have q0 := ((HX.out.set 0 (Value.int .i64 (V : Int))).set 1 (Value.slice (some ⟨g, 0, none⟩) N N)).cell 0
          have q1 := ((HX.out.set 0 (Value.int .i64 (V : Int))).set 1 (Value.slice (some ⟨g, 0, none⟩) N N)).cell 1
          simp at q0 q1
          have Q0 := kide q0
          have Q1 := kide q1
          have hm := RetB.made (w := w) (r := ((V : Int), ys, true)) (c := N) HO.out (by have := HVB.out; omega) (β := vb) (by have := HVB.out; omega) (by omega) HBW.out HQ.out (Value.int .i64 (V : Int)) (Value.slice (some ⟨g, 0, none⟩) N N)
          dsimp only at hm
          rw [HL.out] at hm
          have HM := kide hm
          clear hm q0 q1 hys hfl hB
          go_wp2_with fail
          exact bodyPost_ret (by simp [results, Try.results13, go_sem, Q0.out, Q1.out]) rfl HM.out
    · have hf0 : formR ds (xs.map Sg.ct) = false := by simpa using hf
      have HRES : Hid (flevR ds (vals.map Bw.ct) (xs.map Sg.ct) = noR) := by
        show _ = _
        rw [flevR, if_neg (by rw [hf0]; simp)]
      rw [hf0] at HF
      rw [HRES.out]
      clear hd hv hr hn hnf hval hf hD
      go_enter Try.func13, Try.ntmps13
      go_wp2_with fail
      refine Calls.mono HV.out ?_
      rintro e w1 ⟨rfl, hb1⟩
      have X1 := kide (XR0.later hb1)
      have B1 := kide (hb0.trans (hb1.mono hb0.size))
      clear hb1 XR0 hb0
      go_wp2_with fail
      refine Calls.mono (HF.out w1 B1.out) ?_
      rintro e w2 ⟨rfl, hb2⟩
      have X2 := X1.out.later hb2
      have B2 := kide (B1.out.trans (hb2.mono B1.out.size))
      clear hb2
      have c0 := X2.cell 0
      have c1 := X2.cell 1
      have f0 := X2.froz 0
      have f1 := X2.froz 1
      simp at c0 c1
      go_wp2_with fail
      have q0 := ((X2.set 0 (Value.int .i64 0)).set 1 (Value.slice none 0 0)).cell 0
      have q1 := ((X2.set 0 (Value.int .i64 0)).set 1 (Value.slice none 0 0)).cell 1
      simp at q0 q1
      exact bodyPost_ret (v := .tuple #[.agg #[.int .i64 0, .slice none 0 0], .bool false]) (by simp [results, Try.results13, go_sem, q0, q1]) rfl (RetB.no ((B2.out.setCell (Nat.le_refl _) _).setCell (Nat.le_refl _) _))
  · have hv0 : valR ds (vals.map Bw.ct) = false := by simpa using hval
    have HRES : Hid (flevR ds (vals.map Bw.ct) (xs.map Sg.ct) = noR) := by
      show _ = _
      rw [flevR, if_neg (by rw [hv0]; simp)]
    rw [hv0] at HV
    rw [HRES.out]
    go_enter Try.func13, Try.ntmps13
    go_wp2_with fail
    refine Calls.mono HV.out ?_
    rintro e w1 ⟨rfl, hb1⟩
    have X1 := XR0.later hb1
    have B1 := kide (hb0.trans (hb1.mono hb0.size))
    have c0 := X1.cell 0
    have c1 := X1.cell 1
    have f0 := X1.froz 0
    have f1 := X1.froz 1
    simp at c0 c1
    go_wp2_with fail
    have q0 := ((X1.set 0 (Value.int .i64 0)).set 1 (Value.slice none 0 0)).cell 0
    have q1 := ((X1.set 0 (Value.int .i64 0)).set 1 (Value.slice none 0 0)).cell 1
    simp at q0 q1
    exact bodyPost_ret (v := .tuple #[.agg #[.int .i64 0, .slice none 0 0], .bool false]) (by simp [results, Try.results13, go_sem, q0, q1]) rfl (RetB.no ((B1.out.setCell (Nat.le_refl _) _).setCell (Nat.le_refl _) _))

end Go.Proofs.Ytpmpipcpifmncaa
