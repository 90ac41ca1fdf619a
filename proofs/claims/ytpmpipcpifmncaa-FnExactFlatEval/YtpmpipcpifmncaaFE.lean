/- What segBits tells. -/
import Derived.Test.YtpmpipcpifmncaaFE0
import Derived.Test.YtpmpipcpifmncaaKH
import Derived.Test.YtpmpipcpifmncaaQ
import Derived.Test.YtpmpipcpifmncaaU
import Derived.Test.YtpmpipcpifmncaaL
import Derived.Handy
import Derived.Test.YtpmpipcpifmncaaRX
import Derived.Test.YtpmpipcpifmncaaZMA
namespace Go.Proofs.Ytpmpipcpifmncaa
set_option linter.unusedVariables false
set_option linter.unusedSimpArgs false
open Go.RowKit

def flevR (ds : List Dc) (vs : List Wr) (fs : List Sc) : Int × List Nat × Bool := if valR ds vs = true ∧ formR ds fs = true then (sumS fs, pack (flatL vs fs), true) else noR

theorem bits_part {V : Nat} {xs : List Nat} (p q : Nat) (h1 : p ≤ q) (h2 : q < V) (k : Nat) : (((bitsTo xs V).drop p).take (q - p + 1)).getD k 0 = if k < q - p + 1 then (tb xs (p + k)).toNat else 0 := by
  unfold bitsTo
  by_cases hk : k < q - p + 1
  · rw [if_pos hk]
    have : p + k < V := by omega
    simp [List.getD, List.getElem?_take, hk, this]
  · rw [if_neg hk]
    simp [List.getD, List.getElem?_take, hk]

/-- What segBits tells: a right word of the segment's width that has its bits. -/
def RetSb (vs : List Wr) (s : Sc) (sa : Option Addr) (w : World) (e : Ending) (w' : World) : Prop := ∃ a c ws, e = .returned (.agg #[.int .i64 s.wd, .slice a ws.length c]) ∧ rightB s.wd ws = true ∧ (∀ k : Nat, (k : Int) < s.wd → tb ws k = segB vs s k) ∧ Rd w' a ws ∧ ((a = sa ∧ s.ws ≠ []) ∨ ∀ p, a = some p → w.heap.size ≤ p.block) ∧ Below w.heap.size w w'

theorem rd_box {u : World} {kb : Nat} {cs : Array Value} {t : TypeId} {a : Option Addr} {xs : List Nat} (hb : Bz u kb cs t) (hc : ∀ (o : Nat) (x : Int), cs[o]? ≠ some (.int .u64 x)) (hr : Rd u a xs) (j : Nat) (v : Value) : Rd (u.setCell ⟨kb, j, none⟩ v) a xs := by
  obtain ⟨h1, h2, h3⟩ := hr
  refine ⟨h1, h2, ?_⟩
  rcases h3 with h3 | ⟨b, o, e, h3⟩
  · exact .inl h3
  · refine .inr ⟨b, o, e, fun i hi => ?_⟩
    have h4 := h3 i hi
    by_cases hk : b = kb
    · subst hk
      rw [hb.cell] at h4
      exact absurd h4 (hc _ _)
    · rw [World.cell?_setCell_far _ _ _ _ (by simpa using fun e => hk e.symm)]
      exact h4
theorem Fresh.rdd {w : World} {lo : Nat} {a : Option Addr} {ys : List Nat} (h : Fresh w lo a ys) (hl : ys.length ≤ 1048576) (hx : ∀ x ∈ ys, x < 18446744073709551616) : Rd w a ys := by
  rcases h with ⟨h1, h2⟩ | ⟨g, h1, h2, h3⟩
  · exact ⟨hl, hx, .inl h1⟩
  · rw [h1]; exact h3.rd hl hx
theorem no_u (x : Int) (a : Option Addr) (n c : Nat) (o : Nat) (y : Int) : (#[Value.int .i64 x, Value.slice a n c])[o]? ≠ some (.int .u64 y) := by
  rcases o with _ | _ | o <;> simp

set_option maxHeartbeats 1000000 in
theorem segBits_any (va : Option Addr) (vc n : Nat) (ds : List Dc) (vals : List Bw) (x : Sg) (w : World) (hv : RdW w va vals) (hn : vals.length = n) (hval : valR ds (vals.map Bw.ct) = true) (hok : sgOk ds x.ct = true) (hr : Rd w x.a x.ct.ws) (h64 : in64 x.ct.lo) :
    Calls Try.prog 50 #[.slice va n vc, .agg #[.int .i64 x.ct.v, .int .i64 x.ct.lo, .int .i64 x.ct.wd, .int .i64 x.ct.bw, .slice x.a x.ct.ws.length x.c]] w (RetSb (vals.map Bw.ct) x.ct x.a w) := by
  obtain ⟨hD, hvl, hvv⟩ := valR_iff.1 hval
  have hwd := sgOk_wdt hD hok
  obtain ⟨⟨v, lo, wd, bw, ws⟩, sa, sc⟩ := x
  simp only [] at hok hr h64 hwd ⊢
  by_cases hc : v = -1
  · obtain ⟨h1, h2, h3⟩ := sgOk_cst hok hc
    simp only [] at h1 h2 h3
    subst hc; subst h1; subst h2
    have HR := kide hr
    have HRT := kide h3
    have hvl2 := hr.1
    clear hr h3 hvv hv hval hok
    generalize hwl : ws.length = wl at *
    have HWL := kide hwl
    clear hwl
    go_enter Try.func50, Try.ntmps50
    go_wp2_with fail
    have hb2 : Below w.heap.size w ((w.alloc (Obj.cells #[Value.int .i64 (-1), Value.int .i64 0, Value.int .i64 wd, Value.int .i64 wd, Value.slice sa wl sc] 80)).alloc (Obj.cells #[Value.int .i64 wd, Value.slice sa wl sc] 30)) := ((Below.refl _ _).alloc (Nat.le_refl _) _).alloc (by simp) _
    refine bodyPost_ret (v := .agg #[.int .i64 wd, .slice sa wl sc]) (by simp [results, Try.results50, go_sem]) rfl ⟨sa, sc, ws, by rw [HWL.out], HRT.out, fun k _ => ?_, HR.out.later hb2, .inl ⟨rfl, fun h0 => by have := right_W HRT.out; simp only [] at h0; rw [h0] at this; simp at this; omega⟩, hb2⟩
    simp [segB]
  · obtain ⟨h1, h2, h3, h4, h5⟩ := sgOk_vr hok hc
    simp only [] at h1 h2 h3 h4 h5
    obtain ⟨q, rfl⟩ := Int.eq_ofNat_of_zero_le h1
    rw [Int.toNat_natCast] at h5
    have hqd : q < ds.length := by omega
    have hqv : q < vals.length := by have : (vals.map Bw.ct).length = ds.length := hvl; simp at this; omega
    obtain ⟨y, gy⟩ : ∃ y, vals[q]? = some y := ⟨vals[q], List.getElem?_eq_getElem hqv⟩
    obtain ⟨hy1, hy2⟩ := hvv q (by simpa using hqv)
    have ey : (vals.map Bw.ct).getD q (0, []) = y.ct := by simp [List.getD, gy]
    rw [ey] at hy1 hy2
    obtain ⟨yd, ya, yc, yw⟩ := y
    simp only [Bw.ct] at hy1 hy2
    rw [← hy2] at h5
    obtain ⟨l, rfl⟩ := Int.eq_ofNat_of_zero_le h4
    obtain ⟨m, rfl⟩ := Int.eq_ofNat_of_zero_le (show 0 ≤ wd by omega)
    have hyW := right_W hy1
    obtain ⟨W, rfl⟩ := Int.eq_ofNat_of_zero_le (show 0 ≤ yd by omega)
    obtain ⟨z0, z1⟩ : (0 : Int) ≤ W ∧ (W : Int) ≤ 4096 := by omega
    obtain ⟨P9, hP9⟩ : ∃ P, ((bitsTo yw W).drop l).take m = P := ⟨_, rfl⟩
    have hpart : partR (W : Int) yw ((l : Int) + (m : Int) - 1) (l : Int) = ((m : Int), pack (((bitsTo yw W).drop l).take m), true) := by
      unfold partR
      rw [if_pos ⟨hy1, by omega, by omega, by omega⟩]
      rw [Int.toNat_natCast, Int.toNat_natCast, show (l : Int) + (m : Int) - 1 - (l : Int) + 1 = (m : Int) by omega, Int.toNat_natCast]
    have hyr : Rd w ya yw := by
      rcases hv.2 with h0 | ⟨b, o, -, hcv⟩
      · rw [h0] at gy; simp at gy
      · exact (hcv q _ gy).2.2.1
    have hb1 : Below w.heap.size w ((w.alloc (Obj.cells #[Value.int .i64 (q : Int), Value.int .i64 (l : Int), Value.int .i64 (m : Int), Value.int .i64 bw, Value.slice sa ws.length sc] 80)).alloc (Obj.cells #[Value.int .i64 0, Value.slice none 0 0] 30)) := ((Below.refl _ _).alloc (Nat.le_refl _) _).alloc (by simp) _
    have HPT := kide (fun u (hu : Below w.heap.size w u) => implPart_any (W : Int) ya yc yw ((l : Int) + (m : Int) - 1) (l : Int) u (hyr.later hu) (WalkArith.wf_i64 ⟨by omega, by omega⟩))
    rw [hpart, hP9] at HPT
    have hok2 := hv.1
    rw [hn] at hok2
    obtain ⟨b, o, hva, c0, c1⟩ : ∃ b o, va = some ⟨b, o, none⟩ ∧ w.cell? ⟨b, o + q * 2, none⟩ = some (.int .i64 (W : Int)) ∧ w.cell? ⟨b, o + q * 2 + 1, none⟩ = some (.slice ya yw.length yc) := by
      rcases hv.2 with h0 | ⟨b, o, e, hcv⟩
      · rw [h0] at gy; simp at gy
      · exact ⟨b, o, e, (hcv q _ gy).1, (hcv q _ gy).2.1⟩
    subst hva
    have lb := block_lt_of_cell c0
    have qn : (q : Int) < (n : Int) := by omega
    have hqz : ((q : Int) == -1) = false := beq_eq_false_iff_ne.2 (by omega)
    have HRP : Hid (rightB (m : Int) (pack P9) = true ∧ ∀ k : Nat, (k : Int) < (m : Int) → tb (pack P9) k = segB (vals.map Bw.ct) ⟨(q : Int), (l : Int), (m : Int), bw, ws⟩ k) := by
      have hpl : P9.length = m := by rw [← hP9]; simp [bitsTo]; omega
      have hle : ∀ x ∈ P9, x ≤ 1 := by
        intro x hx
        rw [← hP9] at hx
        have := List.mem_of_mem_drop (List.mem_of_mem_take hx)
        obtain ⟨k, -, rfl⟩ := List.mem_map.1 this
        cases tb yw k <;> simp
      refine ⟨by have := pack_right P9 hle (by omega) (by omega); rwa [hpl] at this, fun k hk => ?_⟩
      rw [tb_pack P9 hle, ← hP9]
      have hb9 := bits_part (V := W) (xs := yw) l (l + m - 1) (by omega) (by omega) k
      rw [show l + m - 1 - l + 1 = m by omega] at hb9
      rw [hb9, if_pos (by omega)]
      unfold segB
      rw [if_neg hc]
      simp only [Int.toNat_natCast, ey]
      cases h9 : tb yw (l + k) <;> simp [Bw.ct, h9]
    have hw1 : IntKind.i64.wrap ((l : Int) + (m : Int)) = (l : Int) + (m : Int) := by rw [IntKind.wrap_i64]; omega
    have hw2 : IntKind.i64.wrap ((l : Int) + (m : Int) - 1) = (l : Int) + (m : Int) - 1 := by rw [IntKind.wrap_i64]; omega
    have HPL : Hid ((pack P9).length ≤ 1048576 ∧ ∀ x ∈ pack P9, x < 18446744073709551616) := ⟨by rw [pack_len, ← hP9]; simp [bitsTo]; omega, pack_lt P9⟩
    have XB := kide ((Bz.new w #[Value.int .i64 (q : Int), Value.int .i64 (l : Int), Value.int .i64 (m : Int), Value.int .i64 bw, Value.slice sa ws.length sc] 80).later ((Below.refl _ _).alloc (Nat.le_refl _) (Obj.cells #[Value.int .i64 0, Value.slice none 0 0] 30)))
    have XR : Hid (Bz ((w.alloc (Obj.cells #[Value.int .i64 (q : Int), Value.int .i64 (l : Int), Value.int .i64 (m : Int), Value.int .i64 bw, Value.slice sa ws.length sc] 80)).alloc (Obj.cells #[Value.int .i64 0, Value.slice none 0 0] 30)) (w.heap.size + 1) #[Value.int .i64 0, Value.slice none 0 0] 30) := by
      have h9 := Bz.new (w.alloc (Obj.cells #[Value.int .i64 (q : Int), Value.int .i64 (l : Int), Value.int .i64 (m : Int), Value.int .i64 bw, Value.slice sa ws.length sc] 80)) #[Value.int .i64 0, Value.slice none 0 0] 30
      rwa [show (w.alloc (Obj.cells #[Value.int .i64 (q : Int), Value.int .i64 (l : Int), Value.int .i64 (m : Int), Value.int .i64 bw, Value.slice sa ws.length sc] 80)).heap.size = w.heap.size + 1 by simp] at h9
    have BV := kide hb1
    have y0 := (hb1.cell (p := ⟨b, o + q * 2, none⟩) lb).trans c0
    have y1 := (hb1.cell (p := ⟨b, o + q * 2 + 1, none⟩) lb).trans c1
    have lbV := Nat.lt_of_lt_of_le lb hb1.size
    generalize hyn : yw.length = yn at *
    generalize hwn : ws.length = wn at *
    clear hvv hv hval hok hr gy ey hyr hy1 hy2 hyW hpart hP9 hvl hb1 hyn hwn c0 c1
    go_enter Try.func50, Try.ntmps50
    go_wp2_with fail
    generalize (w.alloc (Obj.cells #[Value.int .i64 (q : Int), Value.int .i64 (l : Int), Value.int .i64 (m : Int), Value.int .i64 bw, Value.slice sa wn sc] 80)).alloc (Obj.cells #[Value.int .i64 0, Value.slice none 0 0] 30) = V at *
    obtain ⟨b0, hb0⟩ : ∃ b0, w.heap.size = b0 := ⟨_, rfl⟩
    rw [hb0] at XB XR
    simp only [hb0]
    have lb0 := XB.out.lt
    have d0 := XB.out.cell 0
    have d1 := XB.out.cell 1
    have d2 := XB.out.cell 2
    simp at d0 d1 d2
    have HB0 := kide hb0
    clear hb0
    refine wp_region_x (SA := fun _ => False) (SB := fun uu => Below V.heap.size V uu) (k := 999) (by kernel_rfl) ?_
    have hu0 : Hid (Below V.heap.size V V.drew) := (Below.refl _ _).drew
    generalize V.drew = u0 at *
    try go_simp
    refine wpAnyX_both (T := fun uu => Below V.heap.size V uu) (i := 0) (v := Value.slice (some ⟨b, o, none⟩) n vc) rfl (by kernel_rfl) (by kernel_rfl) (by kernel_rfl) (fun _ _ _ h => by first | exact h | exact h.elim) (by decide) (fun _ h => h.elim) (fun _ h => h) (Sx.behind (by kernel_rfl) hu0.out) (Or.inl ⟨by rfl, fun uu hu => by go_simp⟩) ?_
    try go_simp
    refine wpAnyX_both (T := fun uu => Below V.heap.size V uu) (i := 1) (v := Value.pointer (some ⟨b0, 0, none⟩)) rfl (by kernel_rfl) (by kernel_rfl) (by kernel_rfl) (fun _ _ _ h => by first | exact h | exact h.elim) (by decide) (fun _ h => h.elim) (fun _ h => h) (Sx.behind (by kernel_rfl) hu0.out) (Or.inl ⟨by rfl, fun uu hu => by go_simp⟩) ?_
    try go_simp
    refine wpAnyX_both (T := fun uu => Below V.heap.size V uu) (i := 2) (v := Value.int .i64 (q : Int)) rfl (by kernel_rfl) (by kernel_rfl) (by kernel_rfl) (fun _ _ _ h => by first | exact h | exact h.elim) (by decide) (fun _ h => h.elim) (fun _ h => h) (Sx.behind (by kernel_rfl) hu0.out) (Or.inl ⟨by rfl, fun uu hu => by have e1 := (kcell hu b0 0 lb0).trans d0; go_simp⟩) ?_
    try go_simp
    refine wpAnyX_both (T := fun uu => Below V.heap.size V uu) (i := 3) (v := Value.pointer (some ⟨b, o + q * 2, none⟩)) rfl (by kernel_rfl) (by kernel_rfl) (by kernel_rfl) (fun _ _ _ h => by first | exact h | exact h.elim) (by decide) (fun _ h => h.elim) (fun _ h => h) (Sx.behind (by kernel_rfl) hu0.out) (Or.inl ⟨by rfl, fun uu hu => by go_simp⟩) ?_
    try go_simp
    refine wpAnyX_both (T := fun uu => Below V.heap.size V uu) (i := 4) (v := Value.agg #[Value.int .i64 (W : Int), Value.slice ya yn yc]) rfl (by kernel_rfl) (by kernel_rfl) (by kernel_rfl) (fun _ _ _ h => by first | exact h | exact h.elim) (by decide) (fun _ h => h.elim) (fun _ h => h) (Sx.behind (by kernel_rfl) hu0.out) (Or.inl ⟨by rfl, fun uu hu => by have e1 := (kcell hu b (o + q * 2) lbV).trans y0; have e2 := (kcell hu b (o + q * 2 + 1) lbV).trans y1; go_simp⟩) ?_
    try go_simp
    refine wpAnyX_both (T := fun uu => Below V.heap.size V uu) (i := 5) (v := Value.pointer (some ⟨b0, 1, none⟩)) rfl (by kernel_rfl) (by kernel_rfl) (by kernel_rfl) (fun _ _ _ h => by first | exact h | exact h.elim) (by decide) (fun _ h => h.elim) (fun _ h => h) (Sx.behind (by kernel_rfl) hu0.out) (Or.inl ⟨by rfl, fun uu hu => by go_simp⟩) ?_
    try go_simp
    refine wpAnyX_both (T := fun uu => Below V.heap.size V uu) (i := 6) (v := Value.int .i64 (l : Int)) rfl (by kernel_rfl) (by kernel_rfl) (by kernel_rfl) (fun _ _ _ h => by first | exact h | exact h.elim) (by decide) (fun _ h => h.elim) (fun _ h => h) (Sx.behind (by kernel_rfl) hu0.out) (Or.inl ⟨by rfl, fun uu hu => by have e1 := (kcell hu b0 1 lb0).trans d1; go_simp⟩) ?_
    try go_simp
    refine wpAnyX_both (T := fun uu => Below V.heap.size V uu) (i := 7) (v := Value.pointer (some ⟨b0, 2, none⟩)) rfl (by kernel_rfl) (by kernel_rfl) (by kernel_rfl) (fun _ _ _ h => by first | exact h | exact h.elim) (by decide) (fun _ h => h.elim) (fun _ h => h) (Sx.behind (by kernel_rfl) hu0.out) (Or.inl ⟨by rfl, fun uu hu => by go_simp⟩) ?_
    try go_simp
    refine wpAnyX_both (T := fun uu => Below V.heap.size V uu) (i := 8) (v := Value.int .i64 (m : Int)) rfl (by kernel_rfl) (by kernel_rfl) (by kernel_rfl) (fun _ _ _ h => by first | exact h | exact h.elim) (by decide) (fun _ h => h.elim) (fun _ h => h) (Sx.behind (by kernel_rfl) hu0.out) (Or.inl ⟨by rfl, fun uu hu => by have e1 := (kcell hu b0 2 lb0).trans d2; go_simp⟩) ?_
    try go_simp
    refine wpAnyX_both (T := fun uu => Below V.heap.size V uu) (i := 9) (v := Value.int .i64 ((l : Int) + (m : Int))) rfl (by kernel_rfl) (by kernel_rfl) (by kernel_rfl) (fun _ _ _ h => by first | exact h | exact h.elim) (by decide) (fun _ h => h.elim) (fun _ h => h) (Sx.behind (by kernel_rfl) hu0.out) (Or.inl ⟨by rfl, fun uu hu => by go_simp; try exact hw1⟩) ?_
    try go_simp
    refine wpAnyX_both (T := fun uu => Below V.heap.size V uu) (i := 10) (v := Value.int .i64 ((l : Int) + (m : Int) - 1)) rfl (by kernel_rfl) (by kernel_rfl) (by kernel_rfl) (fun _ _ _ h => by first | exact h | exact h.elim) (by decide) (fun _ h => h.elim) (fun _ h => h) (Sx.behind (by kernel_rfl) hu0.out) (Or.inl ⟨by rfl, fun uu hu => by go_simp; try exact hw2⟩) ?_
    try go_simp
    refine wpAnyX_both (T := fun uu => Below V.heap.size V uu) (i := 11) (v := Value.pointer (some ⟨b0, 1, none⟩)) rfl (by kernel_rfl) (by kernel_rfl) (by kernel_rfl) (fun _ _ _ h => by first | exact h | exact h.elim) (by decide) (fun _ h => h.elim) (fun _ h => h) (Sx.behind (by kernel_rfl) hu0.out) (Or.inl ⟨by rfl, fun uu hu => by go_simp⟩) ?_
    try go_simp
    refine wpAnyX_both (T := fun uu => Below V.heap.size V uu) (i := 12) (v := Value.int .i64 (l : Int)) rfl (by kernel_rfl) (by kernel_rfl) (by kernel_rfl) (fun _ _ _ h => by first | exact h | exact h.elim) (by decide) (fun _ h => h.elim) (fun _ h => h) (Sx.behind (by kernel_rfl) hu0.out) (Or.inl ⟨by rfl, fun uu hu => by have e1 := (kcell hu b0 1 lb0).trans d1; go_simp⟩) ?_
    try go_simp
    refine wpAnyX_ready (rs := [13, 17]) (by kernel_rfl) (by simp) (AllX.cons rfl (fun K hK => ?_) (AllX.cons rfl (fun K hK => ?_) AllX.nil))
    · go_simp
      refine Calls.mono (HPT.out _ (BV.out.trans (hu0.out.mono BV.out.size))) ?_
      rintro e u1 ⟨a5, c5, rfl, hf5, hb⟩
      have hu1 : Hid (Below V.heap.size V u1) := hu0.out.trans (hb.mono hu0.out.size)
      have HF_1 : Hid (Rd u1 a5 (pack P9)) := hf5.rdd HPL.out.1 HPL.out.2
      have HA5 : Hid (∀ p, a5 = some p → w.heap.size ≤ p.block) := fun p hp => by rcases hf5 with ⟨-, h9⟩ | ⟨g9, h9, h8, -⟩ <;> (rw [h9] at hp; cases hp); exact Nat.le_trans BV.out.size (Nat.le_trans hu0.out.size h8)
      clear hf5
      refine hK _ _ (Sx.behind (by kernel_rfl) hu1.out) ?_
      clear hK K hb
      try go_simp
      refine wpAnyX_both (T := fun uu => Below V.heap.size V uu) (i := 14) (v := Value.tuple #[Value.agg #[Value.int .i64 (m : Int), Value.slice a5 (pack P9).length c5], Value.bool true]) rfl (by kernel_rfl) (by kernel_rfl) (by kernel_rfl) (fun _ _ _ h => by first | exact h | exact h.elim) (by decide) (fun _ h => h.elim) (fun _ h => h) (Sx.behind (by kernel_rfl) hu1.out) (Or.inl ⟨by rfl, fun uu hu => by go_simp⟩) ?_
      try go_simp
      refine wpAnyX_both (T := fun uu => Below V.heap.size V uu) (i := 15) (v := Value.agg #[Value.int .i64 (m : Int), Value.slice a5 (pack P9).length c5]) rfl (by kernel_rfl) (by kernel_rfl) (by kernel_rfl) (fun _ _ _ h => by first | exact h | exact h.elim) (by decide) (fun _ h => h.elim) (fun _ h => h) (Sx.behind (by kernel_rfl) hu1.out) (Or.inl ⟨by rfl, fun uu hu => by go_simp⟩) ?_
      try go_simp
      refine wpAnyX_both (T := fun uu => Below V.heap.size V uu) (i := 16) (v := Value.bool true) rfl (by kernel_rfl) (by kernel_rfl) (by kernel_rfl) (fun _ _ _ h => by first | exact h | exact h.elim) (by decide) (fun _ h => h.elim) (fun _ h => h) (Sx.behind (by kernel_rfl) hu1.out) (Or.inl ⟨by rfl, fun uu hu => by go_simp⟩) ?_
      try go_simp
      refine wpAnyX_ready (rs := [17]) (by kernel_rfl) (by simp) (AllX.cons rfl (fun K hK => ?_) AllX.nil)
      go_simp
      refine hK _ _ (Sx.behind (by kernel_rfl) (hu1.out.alloc hu1.out.size _)) ?_
      clear hK K
      have hu2 : Hid (Below V.heap.size V (u1.alloc (Obj.cells #[Value.int .i64 0, Value.slice none 0 0] 30))) := hu1.out.alloc hu1.out.size _
      have bkb_2 : Hid (Bz (u1.alloc (Obj.cells #[Value.int .i64 0, Value.slice none 0 0] 30)) u1.heap.size #[Value.int .i64 0, Value.slice none 0 0] 30) := Bz.new _ _ _
      have w2 : Below u1.heap.size u1 (u1.alloc (Obj.cells #[Value.int .i64 0, Value.slice none 0 0] 30)) := (Below.refl _ _).alloc (Nat.le_refl _) _
      have HF_2 : Hid (Rd (u1.alloc (Obj.cells #[Value.int .i64 0, Value.slice none 0 0] 30)) a5 (pack P9)) := HF_1.out.later w2
      have lkb : V.heap.size ≤ u1.heap.size := hu1.out.size
      clear w2
      generalize hqkb : u1.heap.size = kb at *
      generalize u1.alloc (Obj.cells #[Value.int .i64 0, Value.slice none 0 0] 30) = u2 at *
      clear hqkb
      try go_simp
      refine wpAnyX_ready (rs := [18]) (by kernel_rfl) (by simp) (AllX.cons rfl (fun K hK => ?_) AllX.nil)
      have e0 := bkb_2.out.cell 0
      have f0 := bkb_2.out.froz 0
      have e1 := bkb_2.out.cell 1
      have f1 := bkb_2.out.froz 1
      simp at e0 e1
      go_simp
      have bkb_3 : Hid (Bz ((u2.setCell ⟨kb, 0, none⟩ (Value.int .i64 (m : Int))).setCell ⟨kb, 1, none⟩ (Value.slice a5 (pack P9).length c5)) kb #[Value.int .i64 (m : Int), Value.slice a5 (pack P9).length c5] 30) := ((bkb_2.out.set 0 _).set 1 _)
      have hu3 : Hid (Below V.heap.size V ((u2.setCell ⟨kb, 0, none⟩ (Value.int .i64 (m : Int))).setCell ⟨kb, 1, none⟩ (Value.slice a5 (pack P9).length c5))) := ((hu2.out.setCell (show _ ≤ kb from lkb) _).setCell (show _ ≤ kb from lkb) _)
      have HF_3 : Hid (Rd ((u2.setCell ⟨kb, 0, none⟩ (Value.int .i64 (m : Int))).setCell ⟨kb, 1, none⟩ (Value.slice a5 (pack P9).length c5)) a5 (pack P9)) := rd_box (bkb_2.out.set 0 _) (no_u _ _ _ _) (rd_box bkb_2.out (no_u _ _ _ _) HF_2.out 0 _) 1 _
      refine hK _ _ (Sx.behind (by kernel_rfl) hu3.out) ?_
      clear hK K e0 f0 e1 f1
      generalize ((u2.setCell ⟨kb, 0, none⟩ (Value.int .i64 (m : Int))).setCell ⟨kb, 1, none⟩ (Value.slice a5 (pack P9).length c5)) = u3 at *
      try go_simp
      refine wpAnyX_both (T := fun uu => Below V.heap.size V uu) (i := 19) (v := Value.bool true) rfl (by kernel_rfl) (by kernel_rfl) (by kernel_rfl) (fun _ _ _ h => by first | exact h | exact h.elim) (by decide) (fun _ h => h.elim) (fun _ h => h) (Sx.behind (by kernel_rfl) hu3.out) (Or.inl ⟨by rfl, fun uu hu => by go_simp⟩) ?_
      try go_simp
      refine wpAnyX_done (by kernel_rfl) ?_ _
      have r0 : u3.cell? ⟨kb, 0, none⟩ = some (Value.int .i64 (m : Int)) := bkb_3.out.cell 0
      have r1 : u3.cell? ⟨kb, 1, none⟩ = some (Value.slice a5 (pack P9).length c5) := bkb_3.out.cell 1
      have XE := kide (XR.out.later hu3.out)
      have e0 := XE.out.cell 0
      have e1 := XE.out.cell 1
      have f0 := XE.out.froz 0
      have f1 := XE.out.froz 1
      simp at e0 e1
      go_wp2_with fail
      have q0 : ((u3.setCell ⟨b0 + 1, 0, none⟩ (Value.int .i64 (m : Int))).setCell ⟨b0 + 1, 1, none⟩ (Value.slice a5 (pack P9).length c5)).cell? ⟨b0 + 1, 0, none⟩ = some (Value.int .i64 (m : Int)) := ((XE.out.set 0 _).set 1 _).cell 0
      have q1 : ((u3.setCell ⟨b0 + 1, 0, none⟩ (Value.int .i64 (m : Int))).setCell ⟨b0 + 1, 1, none⟩ (Value.slice a5 (pack P9).length c5)).cell? ⟨b0 + 1, 1, none⟩ = some (Value.slice a5 (pack P9).length c5) := ((XE.out.set 0 _).set 1 _).cell 1
      have hre : Rd ((u3.setCell ⟨b0 + 1, 0, none⟩ (Value.int .i64 (m : Int))).setCell ⟨b0 + 1, 1, none⟩ (Value.slice a5 (pack P9).length c5)) a5 (pack P9) := rd_box (XE.out.set 0 _) (no_u _ _ _ _) (rd_box XE.out (no_u _ _ _ _) HF_3.out 0 _) 1 _
      have hbe : Below w.heap.size w ((u3.setCell ⟨b0 + 1, 0, none⟩ (Value.int .i64 (m : Int))).setCell ⟨b0 + 1, 1, none⟩ (Value.slice a5 (pack P9).length c5)) := ((BV.out.trans (hu3.out.mono BV.out.size)).setCell (by simp only; have := HB0.out; omega) _).setCell (by simp only; have := HB0.out; omega) _
      generalize ((u3.setCell ⟨b0 + 1, 0, none⟩ (Value.int .i64 (m : Int))).setCell ⟨b0 + 1, 1, none⟩ (Value.slice a5 (pack P9).length c5)) = uf at *
      exact bodyPost_ret (v := Value.agg #[Value.int .i64 (m : Int), Value.slice a5 (pack P9).length c5]) (by simp [results, Try.results50, go_sem, q0, q1]) rfl ⟨a5, c5, pack P9, rfl, HRP.out.1, HRP.out.2, hre, .inr HA5.out, hbe⟩
    · go_simp
      refine hK _ _ (Sx.behind (by kernel_rfl) (hu0.out.alloc hu0.out.size _)) ?_
      clear hK K
      have hu1 : Hid (Below V.heap.size V (u0.alloc (Obj.cells #[Value.int .i64 0, Value.slice none 0 0] 30))) := hu0.out.alloc hu0.out.size _
      have bkb_1 : Hid (Bz (u0.alloc (Obj.cells #[Value.int .i64 0, Value.slice none 0 0] 30)) u0.heap.size #[Value.int .i64 0, Value.slice none 0 0] 30) := Bz.new _ _ _
      have w1 : Below u0.heap.size u0 (u0.alloc (Obj.cells #[Value.int .i64 0, Value.slice none 0 0] 30)) := (Below.refl _ _).alloc (Nat.le_refl _) _
      have lkb : V.heap.size ≤ u0.heap.size := hu0.out.size
      clear w1
      generalize hqkb : u0.heap.size = kb at *
      generalize u0.alloc (Obj.cells #[Value.int .i64 0, Value.slice none 0 0] 30) = u1 at *
      clear hqkb
      try go_simp
      refine wpAnyX_ready (rs := [13]) (by kernel_rfl) (by simp) (AllX.cons rfl (fun K hK => ?_) AllX.nil)
      go_simp
      refine Calls.mono (HPT.out _ (BV.out.trans (hu1.out.mono BV.out.size))) ?_
      rintro e u2 ⟨a5, c5, rfl, hf5, hb⟩
      have hu2 : Hid (Below V.heap.size V u2) := hu1.out.trans (hb.mono hu1.out.size)
      have bkb_2 : Hid (Bz u2 kb #[Value.int .i64 0, Value.slice none 0 0] 30) := Bz.later bkb_1.out hb
      have HF_2 : Hid (Rd u2 a5 (pack P9)) := hf5.rdd HPL.out.1 HPL.out.2
      have HA5 : Hid (∀ p, a5 = some p → w.heap.size ≤ p.block) := fun p hp => by rcases hf5 with ⟨-, h9⟩ | ⟨g9, h9, h8, -⟩ <;> (rw [h9] at hp; cases hp); exact Nat.le_trans BV.out.size (Nat.le_trans hu1.out.size h8)
      clear hf5
      refine hK _ _ (Sx.behind (by kernel_rfl) hu2.out) ?_
      clear hK K hb
      try go_simp
      refine wpAnyX_both (T := fun uu => Below V.heap.size V uu) (i := 14) (v := Value.tuple #[Value.agg #[Value.int .i64 (m : Int), Value.slice a5 (pack P9).length c5], Value.bool true]) rfl (by kernel_rfl) (by kernel_rfl) (by kernel_rfl) (fun _ _ _ h => by first | exact h | exact h.elim) (by decide) (fun _ h => h.elim) (fun _ h => h) (Sx.behind (by kernel_rfl) hu2.out) (Or.inl ⟨by rfl, fun uu hu => by go_simp⟩) ?_
      try go_simp
      refine wpAnyX_both (T := fun uu => Below V.heap.size V uu) (i := 15) (v := Value.agg #[Value.int .i64 (m : Int), Value.slice a5 (pack P9).length c5]) rfl (by kernel_rfl) (by kernel_rfl) (by kernel_rfl) (fun _ _ _ h => by first | exact h | exact h.elim) (by decide) (fun _ h => h.elim) (fun _ h => h) (Sx.behind (by kernel_rfl) hu2.out) (Or.inl ⟨by rfl, fun uu hu => by go_simp⟩) ?_
      try go_simp
      refine wpAnyX_both (T := fun uu => Below V.heap.size V uu) (i := 16) (v := Value.bool true) rfl (by kernel_rfl) (by kernel_rfl) (by kernel_rfl) (fun _ _ _ h => by first | exact h | exact h.elim) (by decide) (fun _ h => h.elim) (fun _ h => h) (Sx.behind (by kernel_rfl) hu2.out) (Or.inl ⟨by rfl, fun uu hu => by go_simp⟩) ?_
      try go_simp
      refine wpAnyX_ready (rs := [18]) (by kernel_rfl) (by simp) (AllX.cons rfl (fun K hK => ?_) AllX.nil)
      have e0 := bkb_2.out.cell 0
      have f0 := bkb_2.out.froz 0
      have e1 := bkb_2.out.cell 1
      have f1 := bkb_2.out.froz 1
      simp at e0 e1
      go_simp
      have bkb_3 : Hid (Bz ((u2.setCell ⟨kb, 0, none⟩ (Value.int .i64 (m : Int))).setCell ⟨kb, 1, none⟩ (Value.slice a5 (pack P9).length c5)) kb #[Value.int .i64 (m : Int), Value.slice a5 (pack P9).length c5] 30) := ((bkb_2.out.set 0 _).set 1 _)
      have hu3 : Hid (Below V.heap.size V ((u2.setCell ⟨kb, 0, none⟩ (Value.int .i64 (m : Int))).setCell ⟨kb, 1, none⟩ (Value.slice a5 (pack P9).length c5))) := ((hu2.out.setCell (show _ ≤ kb from lkb) _).setCell (show _ ≤ kb from lkb) _)
      have HF_3 : Hid (Rd ((u2.setCell ⟨kb, 0, none⟩ (Value.int .i64 (m : Int))).setCell ⟨kb, 1, none⟩ (Value.slice a5 (pack P9).length c5)) a5 (pack P9)) := rd_box (bkb_2.out.set 0 _) (no_u _ _ _ _) (rd_box bkb_2.out (no_u _ _ _ _) HF_2.out 0 _) 1 _
      refine hK _ _ (Sx.behind (by kernel_rfl) hu3.out) ?_
      clear hK K e0 f0 e1 f1
      generalize ((u2.setCell ⟨kb, 0, none⟩ (Value.int .i64 (m : Int))).setCell ⟨kb, 1, none⟩ (Value.slice a5 (pack P9).length c5)) = u3 at *
      try go_simp
      refine wpAnyX_both (T := fun uu => Below V.heap.size V uu) (i := 19) (v := Value.bool true) rfl (by kernel_rfl) (by kernel_rfl) (by kernel_rfl) (fun _ _ _ h => by first | exact h | exact h.elim) (by decide) (fun _ h => h.elim) (fun _ h => h) (Sx.behind (by kernel_rfl) hu3.out) (Or.inl ⟨by rfl, fun uu hu => by go_simp⟩) ?_
      try go_simp
      refine wpAnyX_done (by kernel_rfl) ?_ _
      have r0 : u3.cell? ⟨kb, 0, none⟩ = some (Value.int .i64 (m : Int)) := bkb_3.out.cell 0
      have r1 : u3.cell? ⟨kb, 1, none⟩ = some (Value.slice a5 (pack P9).length c5) := bkb_3.out.cell 1
      have XE := kide (XR.out.later hu3.out)
      have e0 := XE.out.cell 0
      have e1 := XE.out.cell 1
      have f0 := XE.out.froz 0
      have f1 := XE.out.froz 1
      simp at e0 e1
      go_wp2_with fail
      have q0 : ((u3.setCell ⟨b0 + 1, 0, none⟩ (Value.int .i64 (m : Int))).setCell ⟨b0 + 1, 1, none⟩ (Value.slice a5 (pack P9).length c5)).cell? ⟨b0 + 1, 0, none⟩ = some (Value.int .i64 (m : Int)) := ((XE.out.set 0 _).set 1 _).cell 0
      have q1 : ((u3.setCell ⟨b0 + 1, 0, none⟩ (Value.int .i64 (m : Int))).setCell ⟨b0 + 1, 1, none⟩ (Value.slice a5 (pack P9).length c5)).cell? ⟨b0 + 1, 1, none⟩ = some (Value.slice a5 (pack P9).length c5) := ((XE.out.set 0 _).set 1 _).cell 1
      have hre : Rd ((u3.setCell ⟨b0 + 1, 0, none⟩ (Value.int .i64 (m : Int))).setCell ⟨b0 + 1, 1, none⟩ (Value.slice a5 (pack P9).length c5)) a5 (pack P9) := rd_box (XE.out.set 0 _) (no_u _ _ _ _) (rd_box XE.out (no_u _ _ _ _) HF_3.out 0 _) 1 _
      have hbe : Below w.heap.size w ((u3.setCell ⟨b0 + 1, 0, none⟩ (Value.int .i64 (m : Int))).setCell ⟨b0 + 1, 1, none⟩ (Value.slice a5 (pack P9).length c5)) := ((BV.out.trans (hu3.out.mono BV.out.size)).setCell (by simp only; have := HB0.out; omega) _).setCell (by simp only; have := HB0.out; omega) _
      generalize ((u3.setCell ⟨b0 + 1, 0, none⟩ (Value.int .i64 (m : Int))).setCell ⟨b0 + 1, 1, none⟩ (Value.slice a5 (pack P9).length c5)) = uf at *
      exact bodyPost_ret (v := Value.agg #[Value.int .i64 (m : Int), Value.slice a5 (pack P9).length c5]) (by simp [results, Try.results50, go_sem, q0, q1]) rfl ⟨a5, c5, pack P9, rfl, HRP.out.1, HRP.out.2, hre, .inr HA5.out, hbe⟩

end Go.Proofs.Ytpmpipcpifmncaa
