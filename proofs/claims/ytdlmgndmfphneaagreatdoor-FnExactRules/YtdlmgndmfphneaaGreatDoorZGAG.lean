/- Several texts in one. -/
import Derived.Test.YtdlmgndmfphneaaGreatDoorRLD
import Derived.Test.YtdlmgndmfphneaaGreatDoorZGAF

/- The program's site of a node: what it is asked over Kids. -/
namespace Go.Proofs.YtdlmgndmfphneaaGreatDoor
set_option linter.unusedVariables false
set_option linter.unusedSimpArgs false
open Go.RowKit

theorem catF_any (nb no b0 N nc j : Nat) (xop : Int) (u : World) (c0 : u.cell? ⟨b0, 0, none⟩ = some (.slice (some ⟨nb, no, none⟩) N nc)) (p0 : u.cell? ⟨nb, no + j * 7, none⟩ = some (.int .i64 xop)) (hj : j < N) :
    Calls Tryz.prog 127 #[.int .i64 (j : Int), .pointer (some ⟨b0, 0, none⟩)] u (RetY u (xop == 3)) := by
  have i0 : (j : Int) < (N : Int) := by omega
  have HB := kide (Below.refl u.heap.size u)
  clear hj
  go_enter Tryz.func127, Tryz.ntmps127
  go_wp2_with fail
  go_ret
  exact ⟨rfl, HB.out⟩
theorem enter_catF : ∀ args w, Sem.run Tryz.prog (callFunc 127 args) w = .ok (.enter 127 args) w := fun args w => by simp [go_sem, Tryz.func127]

theorem conF_any (nb no b0 N nc j : Nat) (xop : Int) (u : World) (c0 : u.cell? ⟨b0, 0, none⟩ = some (.slice (some ⟨nb, no, none⟩) N nc)) (p0 : u.cell? ⟨nb, no + j * 7, none⟩ = some (.int .i64 xop)) (hj : j < N) :
    Calls Tryz.prog 97 #[.int .i64 (j : Int), .pointer (some ⟨b0, 0, none⟩)] u (RetY u (xop != 2)) := by
  have i0 : (j : Int) < (N : Int) := by omega
  have HB := kide (Below.refl u.heap.size u)
  clear hj
  go_enter Tryz.func97, Tryz.ntmps97
  go_wp2_with fail
  go_ret
  exact ⟨rfl, HB.out⟩
theorem enter_conF : ∀ args w, Sem.run Tryz.prog (callFunc 97 args) w = .ok (.enter 97 args) w := fun args w => by simp [go_sem, Tryz.func97]

theorem kid_op (na xa wa ka : Option Addr) (N nc xc wn wc kn kc p : Nat) (op vr A B bw : Int) (ws : List Nat) (ks : List Int) (xs : List Tg) (wd : List Int) (w : World) (hS : Si w na xa ka xs wd p ⟨op, vr, A, B, bw, ws, ks⟩) (hN : xs.length = N) (hkn : ks.length = kn) {k : Int} (hk : k ∈ ks) : ∃ (nb no j : Nat) (x : Tg), na = some ⟨nb, no, none⟩ ∧ k = (j : Int) ∧ j < N ∧ xs[j]? = some x ∧ w.cell? ⟨nb, no + j * 7, none⟩ = some (.int .i64 x.ct.op) ∧ kO (xs.map Tg.ct) k = x.ct.op := by
  have h2 := hS.rn.kid k hk
  have hl := hS.lt
  obtain ⟨j, rfl⟩ : ∃ j : Nat, k = (j : Int) := ⟨k.toNat, by omega⟩
  obtain ⟨nb, no, x, e, hx, hat⟩ := hS.node (k := j) (by omega)
  exact ⟨nb, no, j, x, e, rfl, by omega, hx, hat.1.1, (kO_at hx).1⟩

set_option maxHeartbeats 1000000 in
set_option maxRecDepth 100000 in
theorem catOver_any (na xa wa ka : Option Addr) (N nc xc wn wc kn kc p : Nat) (op vr A B bw : Int) (ws : List Nat) (ks : List Int) (xs : List Tg) (wd : List Int) (w : World) (hS : Si w na xa ka xs wd p ⟨op, vr, A, B, bw, ws, ks⟩) (hN : xs.length = N) (hkn : ks.length = kn) (W0 : World) (hb : Below w.heap.size w W0) (b0 : Nat) (hc : W0.cell? ⟨b0, 0, none⟩ = some (.slice na N nc)) :
    Calls Tryz.prog 126 #[.slice ka kn kc, .func (.func 127) #[] #[.pointer (some ⟨b0, 0, none⟩)]] W0 fun e w' => ∃ r : Int, e = .returned (.int .i64 r) ∧ decide (0 ≤ r) = ks.any (fun k => kO (xs.map Tg.ct) k == 3) ∧ Below W0.heap.size W0 w' := by
  refine IndexS_any 127 enter_catF _ (fun k => kO (xs.map Tg.ct) k == 3) ka kc kn ks W0 (hS.hk.later hb) hkn (fun u hu k hk => ?_)
  obtain ⟨nb, no, j, x, rfl, rfl, hj, hx, hop, e⟩ := kid_op na xa wa ka N nc xc wn wc kn kc p op vr A B bw ws ks xs wd w hS hN hkn hk
  have hb1 : b0 < W0.heap.size := block_lt_of_cell hc
  have hb2 : nb < w.heap.size := block_lt_of_cell hop
  have := catF_any nb no b0 N nc j x.ct.op u ((kcell hu b0 0 hb1).trans hc) ((kcell hu nb _ (Nat.lt_of_lt_of_le hb2 hb.size)).trans ((kcell hb nb _ hb2).trans hop)) hj
  rw [e]
  exact this

set_option maxHeartbeats 1000000 in
set_option maxRecDepth 100000 in
theorem conOver_any (na xa wa ka : Option Addr) (N nc xc wn wc kn kc p : Nat) (op vr A B bw : Int) (ws : List Nat) (ks : List Int) (xs : List Tg) (wd : List Int) (w : World) (hS : Si w na xa ka xs wd p ⟨op, vr, A, B, bw, ws, ks⟩) (hN : xs.length = N) (hkn : ks.length = kn) (W0 : World) (hb : Below w.heap.size w W0) (b0 : Nat) (hc : W0.cell? ⟨b0, 0, none⟩ = some (.slice na N nc)) :
    Calls Tryz.prog 98 #[.slice ka kn kc, .func (.func 97) #[] #[.pointer (some ⟨b0, 0, none⟩)]] W0 fun e w' => e = .returned (.bool (ks.any (fun k => kO (xs.map Tg.ct) k != 2))) ∧ Below W0.heap.size W0 w' := by
  refine ContainsS_any 97 enter_conF _ (fun k => kO (xs.map Tg.ct) k != 2) ka kc kn ks W0 (hS.hk.later hb) hkn (fun u hu k hk => ?_)
  obtain ⟨nb, no, j, x, rfl, rfl, hj, hx, hop, e⟩ := kid_op na xa wa ka N nc xc wn wc kn kc p op vr A B bw ws ks xs wd w hS hN hkn hk
  have hb1 : b0 < W0.heap.size := block_lt_of_cell hc
  have hb2 : nb < w.heap.size := block_lt_of_cell hop
  have := conF_any nb no b0 N nc j x.ct.op u ((kcell hu b0 0 hb1).trans hc) ((kcell hu nb _ (Nat.lt_of_lt_of_le hb2 hb.size)).trans ((kcell hb nb _ hb2).trans hop)) hj
  rw [e]
  exact this

set_option maxHeartbeats 1000000 in
set_option maxRecDepth 100000 in
theorem firstCat_any (na xa wa ka : Option Addr) (N nc xc wn wc kn kc p : Nat) (op vr A B bw : Int) (ws : List Nat) (ks : List Int) (xs : List Tg) (wd : List Int) (w : World) (hS : Si w na xa ka xs wd p ⟨op, vr, A, B, bw, ws, ks⟩) (hN : xs.length = N) (hkn : ks.length = kn) :
    Calls Tryz.prog 95 #[.agg #[.slice na N nc, .slice xa N xc, .int .i64 (p : Int), .int .i64 op, .int .i64 vr, .int .i64 A, .int .i64 B, .int .i64 bw, .slice wa wn wc, .slice ka kn kc]] w fun e w' => ∃ r : Int, e = .returned (.int .i64 r) ∧ decide (0 ≤ r) = ks.any (fun k => kO (xs.map Tg.ct) k == 3) ∧ Below w.heap.size w w' := by
  have B0 : Hid (Below w.heap.size w (w.alloc (Obj.cells #[Value.slice na N nc, Value.slice xa N xc, Value.int .i64 (p : Int), Value.int .i64 op, Value.int .i64 vr, Value.int .i64 A, Value.int .i64 B, Value.int .i64 bw, Value.slice wa wn wc, Value.slice ka kn kc] 65))) := (Below.refl _ _).alloc (Nat.le_refl _) _
  have hpN : p < N := by rw [← hN]; exact hS.lt
  have HC := kide (catOver_any na xa wa ka N nc xc wn wc kn kc p op vr A B bw ws ks xs wd w hS hN hkn _ B0.out w.heap.size ((Bz.new w _ _).cell 0))
  generalize ks.any (fun k => kO (xs.map Tg.ct) k == 3) = Z at *
  clear hS hN hkn
  go_enter Tryz.func95, Tryz.ntmps95
  go_wp2_with fail
  refine Calls.mono HC.out ?_
  rintro e w1 ⟨r, rfl, hr, hb⟩
  have HR := kide hr
  have B1 := kide (B0.out.trans (hb.mono B0.out.size))
  clear hr hb
  go_wp2_with fail
  go_returns
  exact ⟨_, rfl, HR.out, B1.out⟩

set_option maxHeartbeats 1000000 in
set_option maxRecDepth 100000 in
theorem isCatOfCat_any (na xa wa ka : Option Addr) (N nc xc wn wc kn kc p : Nat) (op vr A B bw : Int) (ws : List Nat) (ks : List Int) (xs : List Tg) (wd : List Int) (w : World) (hS : Si w na xa ka xs wd p ⟨op, vr, A, B, bw, ws, ks⟩) (hN : xs.length = N) (hkn : ks.length = kn) :
    Calls Tryz.prog 63 #[.agg #[.slice na N nc, .slice xa N xc, .int .i64 (p : Int), .int .i64 op, .int .i64 vr, .int .i64 A, .int .i64 B, .int .i64 bw, .slice wa wn wc, .slice ka kn kc]] w (RetY w (fitB (xs.map Tg.ct) wd ⟨op, vr, A, B, bw, ws, ks⟩ 9)) := by
  have B0 : Hid (Below w.heap.size w (w.alloc (Obj.cells #[Value.slice na N nc, Value.slice xa N xc, Value.int .i64 (p : Int), Value.int .i64 op, Value.int .i64 vr, Value.int .i64 A, Value.int .i64 B, Value.int .i64 bw, Value.slice wa wn wc, Value.slice ka kn kc] 65))) := (Below.refl _ _).alloc (Nat.le_refl _) _
  have hpN : p < N := by rw [← hN]; exact hS.lt
  by_cases h3 : op = 3
  · have hr : Hid (fitB (xs.map Tg.ct) wd ⟨op, vr, A, B, bw, ws, ks⟩ 9 = ks.any (fun k => kO (xs.map Tg.ct) k == 3)) := by
      show _ = _
      rw [fit9]
      simp [h3]
      rfl
    rw [hr.out]
    have HC := kide (fun u (hu : Below w.heap.size w u) => firstCat_any na xa wa ka N nc xc wn wc kn kc p op vr A B bw ws ks xs wd u (hS.later hu) hN hkn)
    generalize ks.any (fun k => kO (xs.map Tg.ct) k == 3) = Z at *
    subst h3
    clear hr hS hN hkn
    go_enter Tryz.func63, Tryz.ntmps63
    go_wp2_with fail
    refine Calls.mono (HC.out _ B0.out) ?_
    rintro e w1 ⟨r, rfl, hr, hb⟩
    have HR := kide hr
    have B1 := kide (B0.out.trans (hb.mono B0.out.size))
    clear hr hb
    go_wp2_with fail
    go_returns
    exact ⟨by first | exact ret_bool HR.out | (rw [← HR.out]; simp), B1.out⟩
  · have hr : Hid (fitB (xs.map Tg.ct) wd ⟨op, vr, A, B, bw, ws, ks⟩ 9 = false) := by
      show _ = _
      rw [fit9]
      simp [h3]
    rw [hr.out]
    have hn3 : (op == 3) = false := (by simpa using h3)
    clear hS hN hkn hr h3
    go_enter Tryz.func63, Tryz.ntmps63
    go_wp2_with fail
    try (go_quiet (fail); go_wp2_with fail)
    go_returns
    exact ⟨by simp, by first | exact B0.out | exact below_drewN B0.out _⟩

set_option maxHeartbeats 1000000 in
set_option maxRecDepth 100000 in
theorem isOfConstants_any (na xa wa ka : Option Addr) (N nc xc wn wc kn kc p : Nat) (op vr A B bw : Int) (ws : List Nat) (ks : List Int) (xs : List Tg) (wd : List Int) (w : World) (hS : Si w na xa ka xs wd p ⟨op, vr, A, B, bw, ws, ks⟩) (hN : xs.length = N) (hkn : ks.length = kn) :
    Calls Tryz.prog 65 #[.agg #[.slice na N nc, .slice xa N xc, .int .i64 (p : Int), .int .i64 op, .int .i64 vr, .int .i64 A, .int .i64 B, .int .i64 bw, .slice wa wn wc, .slice ka kn kc]] w (RetY w (fitB (xs.map Tg.ct) wd ⟨op, vr, A, B, bw, ws, ks⟩ 10)) := by
  have B0 : Hid (Below w.heap.size w (w.alloc (Obj.cells #[Value.slice na N nc, Value.slice xa N xc, Value.int .i64 (p : Int), Value.int .i64 op, Value.int .i64 vr, Value.int .i64 A, Value.int .i64 B, Value.int .i64 bw, Value.slice wa wn wc, Value.slice ka kn kc] 65))) := (Below.refl _ _).alloc (Nat.le_refl _) _
  have hpN : p < N := by rw [← hN]; exact hS.lt
  have hr : Hid (fitB (xs.map Tg.ct) wd ⟨op, vr, A, B, bw, ws, ks⟩ 10 = (decide (0 < kn) && !ks.any (fun k => kO (xs.map Tg.ct) k != 2))) := by
    show _ = _
    rw [fit10]
    simp only [hkn]
    congr 1
    induction ks with
    | nil => rfl
    | cons a t _ => rw [List.not_any_eq_all_not]; apply List.all_congr rfl; intro k; rw [Bool.eq_iff_iff]; simp
  rw [hr.out]
  have HC := kide (conOver_any na xa wa ka N nc xc wn wc kn kc p op vr A B bw ws ks xs wd w hS hN hkn _ B0.out w.heap.size ((Bz.new w _ _).cell 0))
  generalize ks.any (fun k => kO (xs.map Tg.ct) k != 2) = Z at *
  by_cases h0 : kn = 0
  · subst h0
    clear hr hS hN hkn
    go_enter Tryz.func65, Tryz.ntmps65
    go_wp2_with fail
    try (go_quiet (fail); go_wp2_with fail)
    go_returns
    exact ⟨by simp, by first | exact B0.out | exact below_drewN B0.out _⟩
  · have i0 : (0 : Int) < (kn : Int) := by omega
    have i1 : Hid (0 < kn) := by show _ < _; omega
    clear hr hS hN hkn h0
    go_enter Tryz.func65, Tryz.ntmps65
    go_wp2_with fail
    refine Calls.mono HC.out ?_
    rintro e w1 ⟨rfl, hb⟩
    have B1 := kide (B0.out.trans (hb.mono B0.out.size))
    clear hb
    go_wp2_with fail
    go_returns
    have i2 := i1.out
    exact ⟨by simp [i2], B1.out⟩

/-- The sum of the widths of Kids. -/
def smK (wd : List Int) (ks : List Int) : Int := (ks.map fun k => wd.getD k.toNat 0).sum
theorem innB_step {wd : List Int} {lo hi f : Int} {ks : List Int} {i : Nat} {k : Int} (hk : ks[i]? = some k) : innB wd lo hi (ks.take (i + 1)).reverse f = if lo < f + wd.getD k.toNat 0 then decide (hi < f + wd.getD k.toNat 0) else innB wd lo hi (ks.take i).reverse (f + wd.getD k.toNat 0) := by
  rw [List.take_add_one, hk]
  simp [innB]
theorem smK_step {wd : List Int} {ks : List Int} {i : Nat} {k : Int} (hk : ks[i]? = some k) : smK wd (ks.take (i + 1)) = smK wd (ks.take i) + wd.getD k.toNat 0 := by
  unfold smK
  rw [List.take_add_one, hk]
  simp

set_option maxHeartbeats 1000000 in
set_option maxRecDepth 100000 in
theorem kidOfLowest_any (na xa wa ka : Option Addr) (N nc xc wn wc kn kc p : Nat) (op vr A B bw : Int) (ws : List Nat) (ks : List Int) (xs : List Tg) (wd : List Int) (w : World) (hS : Si w na xa ka xs wd p ⟨op, vr, A, B, bw, ws, ks⟩) (hN : xs.length = N) (hkn : ks.length = kn) (h1 : ks.length = 1) (x : Tg) (hx : xs[(ks.getD 0 0).toNat]? = some x) (hX : Rn (xs.map Tg.ct) wd (ks.getD 0 0).toNat x.ct) (h3 : x.ct.op = 3) (hB0 : 0 ≤ B) (hB : B < kW wd ⟨op, vr, A, B, bw, ws, ks⟩) (hK4 : kW wd ⟨op, vr, A, B, bw, ws, ks⟩ ≤ 4096) :
    Calls Tryz.prog 100 #[.agg #[.slice na N nc, .slice xa N xc, .int .i64 (p : Int), .int .i64 op, .int .i64 vr, .int .i64 A, .int .i64 B, .int .i64 bw, .slice wa wn wc, .slice ka kn kc]] w fun e w' => ∃ (k f : Int), e = .returned (.tuple #[.int .i64 k, .int .i64 f]) ∧ (∃ j : Nat, k = (j : Int) ∧ j < N) ∧ 0 ≤ f ∧ f ≤ 4096 ∧ (∀ hi, innB wd B hi x.ct.ks.reverse 0 = decide (hi < f + wd.getD k.toNat 0)) ∧ Below w.heap.size w w' := by
  have B0 : Hid (Below w.heap.size w (w.alloc (Obj.cells #[Value.slice na N nc, Value.slice xa N xc, Value.int .i64 (p : Int), Value.int .i64 op, Value.int .i64 vr, Value.int .i64 A, Value.int .i64 B, Value.int .i64 bw, Value.slice wa wn wc, Value.slice ka kn kc] 65))) := (Below.refl _ _).alloc (Nat.le_refl _) _
  have XB0 := kide (Bz.new w #[Value.slice na N nc, Value.slice xa N xc, Value.int .i64 (p : Int), Value.int .i64 op, Value.int .i64 vr, Value.int .i64 A, Value.int .i64 B, Value.int .i64 bw, Value.slice wa wn wc, Value.slice ka kn kc] 65)
  have HK := kide (fun u (hu : Below w.heap.size w u) => siteKid_any na xa wa ka N nc xc wn wc kn kc p op vr A B bw ws ks xs wd u (hS.later hu) hN hkn h1 x hx)
  have hkw : smK wd x.ct.ks = kW wd ⟨op, vr, A, B, bw, ws, ks⟩ := (hX.cat h3).symm
  have hm := hX.many h3
  have hlen := hX.len
  obtain ⟨nb, no, y, e9, hy, hat⟩ := hS.node (k := (ks.getD 0 0).toNat) (by have := (List.getElem?_eq_some_iff.1 hx).1; exact this)
  rw [hx] at hy
  cases hy
  obtain ⟨-, -, hxk, -⟩ := hat
  have HXK := kide hxk
  have HXX := kide hX
  have HWD := kide hS.ww
  have HLW := kide hS.lw
  have HNN := kide hN
  have HRX := kide hS.hx
  have HPL : Hid ((ks.getD 0 0).toNat < xs.length) := (List.getElem?_eq_some_iff.1 hx).1
  obtain ⟨⟨xop, xvr, xA, xB, xbw, xws, xks⟩, xwa, xwc, xka, xkc⟩ := x
  simp only [] at HK HXK HXX hkw hm hlen h3 ⊢
  obtain ⟨kl, hkl⟩ : ∃ m, xks.length = m := ⟨_, rfl⟩
  have HKL := kide hkl
  rw [hkl] at HK hm hlen
  have hfd : ∀ u : World, (Instr.field 63 (.agg #[.int .i64 xop, .int .i64 xvr, .int .i64 xA, .int .i64 xB, .int .i64 xbw, .slice xwa xws.length xwc, .slice xka kl xkc]) 5).run Tryz.prog u = .ok (.slice xka kl xkc) u := fun _ => by kernel_rfl
  have hB9 : Hid (B < smK wd xks ∧ 0 ≤ B) := ⟨by omega, hB0⟩
  have hm9 : Hid (2 ≤ kl) := hm
  have hl9 : Hid (kl ≤ 4096) := hlen
  have HSM : Hid (smK wd xks ≤ 4096) := by show _ ≤ _; omega
  clear hS hN hkn h1 hx hX hxk e9 hkw h3 hB0 hB hm hlen hkl hK4
  go_enter Tryz.func100, Tryz.ntmps100
  go_wp2_with fail
  refine Calls.mono (HK.out _ B0.out) ?_
  rintro e w1 ⟨rfl, hb⟩
  have B1 := kide (B0.out.trans (hb.mono B0.out.size))
  have XB1 := kide (XB0.out.later hb)
  clear hb
  have HINV : Hid (∃ i : Nat, kl = i + 1) := ⟨kl - 1, by have := hm9.out; omega⟩
  obtain ⟨i9, hi9⟩ := HINV.out
  have e9 : (kl : Int) - 1 = (i9 : Int) := by omega
  have HI9 := kide hi9
  clear HINV hi9
  go_wp2_with fail
  go_loopw [5, 6] (fun a f wr => ∃ (i : Nat) (F : Int), i < kl ∧ a = .int .i64 (i : Int) ∧ f = .int .i64 F ∧ 0 ≤ F ∧ F ≤ B ∧ B < F + smK wd (xks.take (i + 1)) ∧ (∀ hi, innB wd B hi xks.reverse 0 = innB wd B hi (xks.take (i + 1)).reverse F) ∧ Below w.heap.size w wr ∧ Below w1.heap.size w1 wr) (fun a _ _ => (intOf a).toNat)
  case atStart =>
    have h9 := HI9.out
    have h8 := hl9.out
    have hfull : xks.take (i9 + 1) = xks := List.take_of_length_le (by rw [HKL.out]; omega)
    exact ⟨i9, 0, by omega, by first | rfl | (rw [show wrap64 (i9 : Int) = (i9 : Int) by unfold wrap64; omega]), rfl, by omega, hB9.out.2, by rw [hfull]; have := hB9.out.1; omega, fun hi => by rw [hfull], B1.out, Below.refl _ _⟩
  case round =>
    obtain ⟨i, F, hi, rfl, rfl, hF0, hFB, hBs, hin, hb1, hb2⟩ := hrel
    obtain ⟨-, -, h0 | ⟨b2, o2, rfl, hc2⟩⟩ := HXK.out
    · have := HKL.out; have := hm9.out; rw [h0] at *; simp at *; omega
    have hik : xks[i]? = some (xks.getD i 0) := by
      have : i < xks.length := by rw [HKL.out]; exact hi
      simp [List.getD, this]
    have q0 := hc2 i (by rw [HKL.out]; exact hi)
    have hkr := HXX.out.kid _ (List.mem_of_getElem? hik)
    obtain ⟨j, hj⟩ : ∃ j : Nat, xks.getD i 0 = (j : Int) := ⟨(xks.getD i 0).toNat, by omega⟩
    have hjN : j < N := by
      have h8 := HPL.out
      have h7 := HNN.out
      rw [hj] at hkr
      omega
    have hst := fun hi' => innB_step (wd := wd) (lo := B) (hi := hi') (f := F) hik
    have hsk := smK_step (wd := wd) hik
    rw [hj] at q0
    simp only [hj, Int.toNat_natCast] at hst hsk
    obtain ⟨-, -, h0 | ⟨xb, xo, rfl, hcx⟩⟩ := HRX.out
    · have h8 := HLW.out; rw [h0] at h8; simp at h8; have := HNN.out; omega
    have q1 := hcx j (by rw [HLW.out, HNN.out]; exact hjN)
    have hW := wd_pos HWD.out (i := j) (by rw [HLW.out, HNN.out]; exact hjN)
    have l2 := block_lt_of_cell q0
    have lx := block_lt_of_cell q1
    rw [← kcell hb1 _ _ l2] at q0
    rw [← kcell hb1 _ _ lx] at q1
    have hbz := (B1.out.trans (hb2.mono B1.out.size))
    generalize hWe : wd.getD j 0 = W at *
    have HWE := kide hWe
    clear hWe
    have HWP := kide hW
    have j0 : (j : Int) < (N : Int) := by omega
    have i0 : (i : Int) < (kl : Int) := by omega
    have HST := kide hst
    have HSK := kide hsk
    have HIN := kide hin
    have HF := kide (And.intro hF0 (And.intro hFB hBs))
    have hxb := XB1.out.later hb2
    have z6 := hxb.cell 6
    have z1 := hxb.cell 1
    have lz := hxb.lt
    simp at z1 z6
    have HBB := kide hb1
    have HB2 := kide hb2
    have HJ := kide hjN
    have HB4 : Hid (B ≤ 4096) := by
      show _ ≤ _
      have h8 := hB9.out.1
      have h7 := HSM.out
      omega
    have fw : -9223372036854775808 ≤ F + W ∧ F + W ≤ 9223372036854775807 := by have := HB4.out; omega
    clear hst hsk hin hF0 hBs hb1 hb2 hjN hc2 hcx hik hkr hj hbz hW hxb
    by_cases hlt : B < F + W
    · have hfin : Hid (∀ hi, innB wd B hi xks.reverse 0 = decide (hi < F + W)) := fun hi => by rw [HIN.out, HST.out, if_pos hlt]
      have nge : ¬ F + W ≤ B := by omega
      clear hlt
      go_wp2_with fail
      go_quiet (fail)
      go_wp2_with fail
      go_returns
      exact ⟨(j : Int), F, rfl, ⟨j, rfl, HJ.out⟩, HF.out.1, by have := HF.out; have := HB4.out; omega, fun hi => by rw [Int.toNat_natCast, HWE.out]; exact hfin.out hi, below_drewN (B1.out.trans (HB2.out.mono B1.out.size)) _⟩
    · obtain ⟨i2, rfl⟩ : ∃ i2, i = i2 + 1 := by
        cases i with
        | zero =>
          have h8 := HF.out.2.2
          have h7 := HSK.out
          simp [smK] at h7 h8
          omega
        | succ i2 => exact ⟨i2, rfl⟩
      have ge0 : F + W ≤ B := by omega
      have e1 : ((i2 + 1 : Nat) : Int) - 1 = (i2 : Int) := by omega
      have HI2 : Hid (i2 < kl) := by show _ < _; omega
      have hfin : Hid (∀ hi, innB wd B hi xks.reverse 0 = innB wd B hi (xks.take (i2 + 1)).reverse (F + W)) := fun hi => by rw [HIN.out, HST.out, if_neg hlt]
      have hnum : Hid (0 ≤ F + W ∧ F + W ≤ B ∧ B < F + W + smK wd (xks.take (i2 + 1))) := by
        show _ ∧ _ ∧ _
        have h8 := HF.out
        have h7 := HSK.out
        have h6 := HWP.out
        omega
      have hz9 : Hid (i2 ≤ 4096) := by show _ ≤ _; have := hl9.out; omega
      clear hlt hFB
      go_wp2_with fail
      go_quiet (fail)
      go_wp2_with fail
      go_quiet (fail)
      go_wp2_with fail
      have hw9 : wrap64 (i2 : Int) = (i2 : Int) := by unfold wrap64; have := hz9.out; omega
      rw [hw9]
      go_roundw
      case rel => exact ⟨i2, F + W, HI2.out, by first | rfl | rw [hw9], by first | rfl | go_num, hnum.out.1, hnum.out.2.1, hnum.out.2.2, hfin.out, below_drewN HBB.out _, below_drewN HB2.out _⟩
      case measure => simp only [intOf, Int.toNat_natCast]; omega

set_option maxHeartbeats 1000000 in
set_option maxRecDepth 100000 in
theorem isWithinKid_any (na xa wa ka : Option Addr) (N nc xc wn wc kn kc p : Nat) (op vr A B bw : Int) (ws : List Nat) (ks : List Int) (xs : List Tg) (wd : List Int) (w : World) (hS : Si w na xa ka xs wd p ⟨op, vr, A, B, bw, ws, ks⟩) (hN : xs.length = N) (hkn : ks.length = kn) (hR : ∀ q m, (xs.map Tg.ct)[q]? = some m → Rn (xs.map Tg.ct) wd q m) :
    Calls Tryz.prog 67 #[.agg #[.slice na N nc, .slice xa N xc, .int .i64 (p : Int), .int .i64 op, .int .i64 vr, .int .i64 A, .int .i64 B, .int .i64 bw, .slice wa wn wc, .slice ka kn kc]] w (RetY w (fitB (xs.map Tg.ct) wd ⟨op, vr, A, B, bw, ws, ks⟩ 11)) := by
  have B0 : Hid (Below w.heap.size w (w.alloc (Obj.cells #[Value.slice na N nc, Value.slice xa N xc, Value.int .i64 (p : Int), Value.int .i64 op, Value.int .i64 vr, Value.int .i64 A, Value.int .i64 B, Value.int .i64 bw, Value.slice wa wn wc, Value.slice ka kn kc] 65))) := (Below.refl _ _).alloc (Nat.le_refl _) _
  by_cases h4 : op = 4
  · have h1 := hS.rn.one (by simp only []; omega)
    simp only [] at h1
    obtain ⟨kb, ko, j, ea, ck, ej, hj⟩ := hS.kid (i := 0) (by simp only []; omega)
    simp only [] at ej
    have hlt := hS.lt
    obtain ⟨x, hx⟩ : ∃ x, xs[j]? = some x := ⟨xs[j]'(by omega), List.getElem?_eq_getElem _⟩
    have HK := kide (fun u (hu : Below w.heap.size w u) => siteKid_any na xa wa ka N nc xc wn wc kn kc p op vr A B bw ws ks xs wd u (hS.later hu) hN hkn h1 x (by rw [ej, Int.toNat_natCast]; exact hx))
    have hX := hR j x.ct (by rw [List.getElem?_map, hx]; rfl)
    have hpt := hS.rn.part h4
    have hkw : kW wd ⟨op, vr, A, B, bw, ws, ks⟩ = wd.getD j 0 := by unfold kW; simp only [ej, Int.toNat_natCast]
    have hk4 := wd_nat hS.ww j
    have HL := kide (fun u (hu : Below w.heap.size w u) (h3 : x.ct.op = 3) => kidOfLowest_any na xa wa ka N nc xc wn wc kn kc p op vr A B bw ws ks xs wd u (hS.later hu) hN hkn h1 x (by rw [ej, Int.toNat_natCast]; exact hx) (by rw [ej, Int.toNat_natCast]; exact hX) h3 hpt.1 (by simp only [] at hpt; omega) (by omega))
    have hA : 0 ≤ A ∧ A ≤ 4096 := by simp only [] at hpt; omega
    have hwid := fun (q : Nat) (hq : q < N) => hS.wid (k := q) (by omega)
    have hww := fun (q : Nat) (hq : q < N) => wd_pos hS.ww (i := q) (by have := hS.lw; omega)
    have HWI := kide hwid
    have HWW := kide hww
    have HAA := kide hA
    have hr : Hid (fitB (xs.map Tg.ct) wd ⟨op, vr, A, B, bw, ws, ks⟩ 11 = (decide (x.ct.op = 3) && innB wd B A x.ct.ks.reverse 0)) := by
      show _ = _
      rw [fit11]
      simp only [ej, (kO_at hx).1, (kO_at hx).2, h4, true_and]
    rw [hr.out]
    have XB0 := kide (Bz.new w #[Value.slice na N nc, Value.slice xa N xc, Value.int .i64 (p : Int), Value.int .i64 op, Value.int .i64 vr, Value.int .i64 A, Value.int .i64 B, Value.int .i64 bw, Value.slice wa wn wc, Value.slice ka kn kc] 65)
    obtain ⟨⟨xop, xvr, xA, xB, xbw, xws, xks⟩, xwa, xwc, xka, xkc⟩ := x
    simp only [] at HK HL ⊢
    have hfd : ∀ u : World, (Instr.field 63 (.agg #[.int .i64 xop, .int .i64 xvr, .int .i64 xA, .int .i64 xB, .int .i64 xbw, .slice xwa xws.length xwc, .slice xka xks.length xkc]) 0).run Tryz.prog u = .ok (.int .i64 xop) u := fun _ => by kernel_rfl
    clear hr hS hN hkn h1 ej hx hlt ck ea hX hpt hkw hk4 hA hwid hww
    subst h4
    by_cases h3 : xop = 3
    · subst h3
      go_enter Tryz.func67, Tryz.ntmps67
      go_wp2_with fail
      refine Calls.mono (HK.out _ B0.out) ?_
      rintro e w1 ⟨rfl, hb⟩
      have B1 := kide (B0.out.trans (hb.mono B0.out.size))
      have XB1 := kide (XB0.out.later hb)
      have e0 := XB1.out.cell 0
      have e1 := XB1.out.cell 1
      have e2 := XB1.out.cell 2
      have e3 := XB1.out.cell 3
      have e4 := XB1.out.cell 4
      have e5 := XB1.out.cell 5
      have e6 := XB1.out.cell 6
      have e7 := XB1.out.cell 7
      have e8 := XB1.out.cell 8
      have e9 := XB1.out.cell 9
      simp at e0 e1 e2 e3 e4 e5 e6 e7 e8 e9
      clear hb
      go_wp2_with fail
      refine Calls.mono (HL.out _ B1.out (by first | rfl | trivial)) ?_
      rintro e w2 ⟨k, f, rfl, ⟨q, rfl, hq⟩, hf0, hf4, hin, hb⟩
      have B2 := kide (B1.out.trans (hb.mono B1.out.size))
      have XB2 := kide (XB1.out.later hb)
      obtain ⟨xb, xo, rfl, cx⟩ := HWI.out q hq
      have hW := HWW.out q hq
      have lx := block_lt_of_cell cx
      rw [← kcell B2.out _ _ lx] at cx
      have hinA := hin A
      rw [Int.toNat_natCast] at hinA
      generalize wd.getD q 0 = W at *
      have HINA := kide hinA
      have y1 := XB2.out.cell 1
      have y5 := XB2.out.cell 5
      simp at y1 y5
      have q0 : (q : Int) < (N : Int) := by omega
      have fw : -9223372036854775808 ≤ f + W ∧ f + W ≤ 9223372036854775807 := by omega
      clear hb hin hinA hq hW hf0 hf4 e0 e1 e2 e3 e4 e5 e6 e7 e8 e9
      go_wp2_with fail
      try (go_quiet (fail); go_wp2_with fail)
      go_returns
      exact ⟨by rw [HINA.out]; simp, by first | exact B2.out | exact below_drewN B2.out _⟩
    · have h33 : (xop == 3) = false := by simpa using h3
      have h34 : (xop != 3) = true := by simpa using h3
      have hd : Hid (decide (xop = 3) = false) := by show _ = _; simpa using h3
      rw [hd.out, Bool.false_and]
      clear h3
      go_enter Tryz.func67, Tryz.ntmps67
      go_wp2_with fail
      refine Calls.mono (HK.out _ B0.out) ?_
      rintro e w1 ⟨rfl, hb⟩
      have B1 := kide (B0.out.trans (hb.mono B0.out.size))
      clear hb
      go_wp2_with fail
      go_returns
      exact ⟨by simp, by first | exact B1.out | exact below_drewN B1.out _⟩
  · have h44 : (op != 4) = true := by simpa using h4
    have hr : Hid (fitB (xs.map Tg.ct) wd ⟨op, vr, A, B, bw, ws, ks⟩ 11 = false) := by
      show _ = _
      rw [fit11]
      simp [h4]
    rw [hr.out]
    clear hS hN hkn hr h4 hR
    go_enter Tryz.func67, Tryz.ntmps67
    go_wp2_with fail
    try (go_quiet (fail); go_wp2_with fail)
    go_returns
    exact ⟨by simp, by first | exact B0.out | exact below_drewN B0.out _⟩

end Go.Proofs.YtdlmgndmfphneaaGreatDoor

/- The program's opOf. -/
namespace Go.Proofs.YtdlmgndmfphneaaGreatDoor
set_option linter.unusedVariables false
set_option linter.unusedSimpArgs false
open Go.RowKit

theorem opOf_cat (a : Option Addr) (nd c : Nat) (vr A B bw : Int) (wa ka : Option Addr) (wl wc kl kc : Nat) (w : World) :
    Calls Tryz.prog 147 #[.slice a nd c, .agg #[.int .i64 3, .int .i64 vr, .int .i64 A, .int .i64 B, .int .i64 bw, .slice wa wl wc, .slice ka kl kc]] w fun e w' => e = .returned (.iface 203 (.agg #[])) ∧ Below w.heap.size w w' := by
  have hb0 : Below w.heap.size w (w.alloc (Obj.cells #[Value.int .i64 3, Value.int .i64 vr, Value.int .i64 A, Value.int .i64 B, Value.int .i64 bw, Value.slice wa wl wc, Value.slice ka kl kc] 63)) := (Below.refl _ _).alloc (Nat.le_refl _) _
  have B0 := kide hb0
  clear hb0
  go_enter Tryz.func147, Tryz.ntmps147
  go_wp2_with fail
  go_ret
  exact ⟨rfl, B0.out⟩

theorem opOf_part (a : Option Addr) (nd c : Nat) (vr A B bw : Int) (wa ka : Option Addr) (wl wc kl kc : Nat) (w : World) :
    Calls Tryz.prog 147 #[.slice a nd c, .agg #[.int .i64 4, .int .i64 vr, .int .i64 A, .int .i64 B, .int .i64 bw, .slice wa wl wc, .slice ka kl kc]] w fun e w' => e = .returned (.iface 205 (.agg #[.int .i64 A, .int .i64 B])) ∧ Below w.heap.size w w' := by
  have hb0 : Below w.heap.size w (w.alloc (Obj.cells #[Value.int .i64 4, Value.int .i64 vr, Value.int .i64 A, Value.int .i64 B, Value.int .i64 bw, Value.slice wa wl wc, Value.slice ka kl kc] 63)) := (Below.refl _ _).alloc (Nat.le_refl _) _
  have B0 := kide hb0
  clear hb0
  go_enter Tryz.func147, Tryz.ntmps147
  go_wp2_with fail
  go_ret
  exact ⟨rfl, B0.out⟩

theorem opOf_bits (a : Option Addr) (nd c : Nat) (vr A B bw : Int) (wa ka : Option Addr) (wl wc kl kc : Nat) (w : World) :
    Calls Tryz.prog 147 #[.slice a nd c, .agg #[.int .i64 2, .int .i64 vr, .int .i64 A, .int .i64 B, .int .i64 bw, .slice wa wl wc, .slice ka kl kc]] w fun e w' => e = .returned (.iface 201 (.agg #[.int .i64 bw, .slice wa wl wc])) ∧ Below w.heap.size w w' := by
  have hb0 : Below w.heap.size w (w.alloc (Obj.cells #[Value.int .i64 2, Value.int .i64 vr, Value.int .i64 A, Value.int .i64 B, Value.int .i64 bw, Value.slice wa wl wc, Value.slice ka kl kc] 63)) := (Below.refl _ _).alloc (Nat.le_refl _) _
  have B0 := kide hb0
  clear hb0
  go_enter Tryz.func147, Tryz.ntmps147
  go_wp2_with fail
  go_ret
  exact ⟨rfl, B0.out⟩

theorem opOf_rep (a : Option Addr) (nd c : Nat) (vr A B bw : Int) (wa ka : Option Addr) (wl wc kl kc : Nat) (w : World) :
    Calls Tryz.prog 147 #[.slice a nd c, .agg #[.int .i64 9, .int .i64 vr, .int .i64 A, .int .i64 B, .int .i64 bw, .slice wa wl wc, .slice ka kl kc]] w fun e w' => e = .returned (.iface 211 (.agg #[.int .i64 A])) ∧ Below w.heap.size w w' := by
  have hb0 : Below w.heap.size w (w.alloc (Obj.cells #[Value.int .i64 9, Value.int .i64 vr, Value.int .i64 A, Value.int .i64 B, Value.int .i64 bw, Value.slice wa wl wc, Value.slice ka kl kc] 63)) := (Below.refl _ _).alloc (Nat.le_refl _) _
  have B0 := kide hb0
  clear hb0
  go_enter Tryz.func147, Tryz.ntmps147
  go_wp2_with fail
  go_ret
  exact ⟨rfl, B0.out⟩

theorem opOf_zero (a : Option Addr) (nd c : Nat) (vr A B bw : Int) (wa ka : Option Addr) (wl wc kl kc : Nat) (w : World) (hG : GF w) :
    Calls Tryz.prog 147 #[.slice a nd c, .agg #[.int .i64 5, .int .i64 vr, .int .i64 A, .int .i64 B, .int .i64 bw, .slice wa wl wc, .slice ka kl kc]] w fun e w' => (∃ s, e = .returned (.iface 207 (.agg #[.string s, .int .i64 A]))) ∧ Below w.heap.size w w' := by
  have hb0 : Below w.heap.size w (w.alloc (Obj.cells #[Value.int .i64 5, Value.int .i64 vr, Value.int .i64 A, Value.int .i64 B, Value.int .i64 bw, Value.slice wa wl wc, Value.slice ka kl kc] 63)) := (Below.refl _ _).alloc (Nat.le_refl _) _
  have B0 := kide hb0
  clear hb0
  obtain ⟨⟨s, h0⟩, -⟩ := hG 5 (by omega)
  have l0 : 0 < w.heap.size := block_lt_of_cell h0
  simp only [Nat.reduceMul] at h0
  go_enter Tryz.func147, Tryz.ntmps147
  go_wp2_with fail
  go_quiet (fail)
  go_wp2_with fail
  go_ret
  exact ⟨⟨_, rfl⟩, below_drewN B0.out _⟩

theorem opOf_sign (a : Option Addr) (nd c : Nat) (vr A B bw : Int) (wa ka : Option Addr) (wl wc kl kc : Nat) (w : World) (hG : GF w) :
    Calls Tryz.prog 147 #[.slice a nd c, .agg #[.int .i64 6, .int .i64 vr, .int .i64 A, .int .i64 B, .int .i64 bw, .slice wa wl wc, .slice ka kl kc]] w fun e w' => (∃ s, e = .returned (.iface 207 (.agg #[.string s, .int .i64 A]))) ∧ Below w.heap.size w w' := by
  have hb0 : Below w.heap.size w (w.alloc (Obj.cells #[Value.int .i64 6, Value.int .i64 vr, Value.int .i64 A, Value.int .i64 B, Value.int .i64 bw, Value.slice wa wl wc, Value.slice ka kl kc] 63)) := (Below.refl _ _).alloc (Nat.le_refl _) _
  have B0 := kide hb0
  clear hb0
  obtain ⟨⟨s, h0⟩, -⟩ := hG 6 (by omega)
  have l0 : 0 < w.heap.size := block_lt_of_cell h0
  simp only [Nat.reduceMul] at h0
  go_enter Tryz.func147, Tryz.ntmps147
  go_wp2_with fail
  go_quiet (fail)
  go_wp2_with fail
  go_ret
  exact ⟨⟨_, rfl⟩, below_drewN B0.out _⟩

theorem opOf_left (a : Option Addr) (nd c : Nat) (vr A B bw : Int) (wa ka : Option Addr) (wl wc kl kc : Nat) (w : World) (hG : GF w) :
    Calls Tryz.prog 147 #[.slice a nd c, .agg #[.int .i64 7, .int .i64 vr, .int .i64 A, .int .i64 B, .int .i64 bw, .slice wa wl wc, .slice ka kl kc]] w fun e w' => (∃ s, e = .returned (.iface 209 (.agg #[.string s, .int .i64 A]))) ∧ Below w.heap.size w w' := by
  have hb0 : Below w.heap.size w (w.alloc (Obj.cells #[Value.int .i64 7, Value.int .i64 vr, Value.int .i64 A, Value.int .i64 B, Value.int .i64 bw, Value.slice wa wl wc, Value.slice ka kl kc] 63)) := (Below.refl _ _).alloc (Nat.le_refl _) _
  have B0 := kide hb0
  clear hb0
  obtain ⟨⟨s, h0⟩, -⟩ := hG 7 (by omega)
  have l0 : 0 < w.heap.size := block_lt_of_cell h0
  simp only [Nat.reduceMul] at h0
  go_enter Tryz.func147, Tryz.ntmps147
  go_wp2_with fail
  go_quiet (fail)
  go_wp2_with fail
  go_ret
  exact ⟨⟨_, rfl⟩, below_drewN B0.out _⟩

theorem opOf_right (a : Option Addr) (nd c : Nat) (vr A B bw : Int) (wa ka : Option Addr) (wl wc kl kc : Nat) (w : World) (hG : GF w) :
    Calls Tryz.prog 147 #[.slice a nd c, .agg #[.int .i64 8, .int .i64 vr, .int .i64 A, .int .i64 B, .int .i64 bw, .slice wa wl wc, .slice ka kl kc]] w fun e w' => (∃ s, e = .returned (.iface 209 (.agg #[.string s, .int .i64 A]))) ∧ Below w.heap.size w w' := by
  have hb0 : Below w.heap.size w (w.alloc (Obj.cells #[Value.int .i64 8, Value.int .i64 vr, Value.int .i64 A, Value.int .i64 B, Value.int .i64 bw, Value.slice wa wl wc, Value.slice ka kl kc] 63)) := (Below.refl _ _).alloc (Nat.le_refl _) _
  have B0 := kide hb0
  clear hb0
  obtain ⟨⟨s, h0⟩, -⟩ := hG 8 (by omega)
  have l0 : 0 < w.heap.size := block_lt_of_cell h0
  simp only [Nat.reduceMul] at h0
  go_enter Tryz.func147, Tryz.ntmps147
  go_wp2_with fail
  go_quiet (fail)
  go_wp2_with fail
  go_ret
  exact ⟨⟨_, rfl⟩, below_drewN B0.out _⟩

theorem opOf_off (a : Option Addr) (nd c : Nat) (vr A B bw : Int) (wa ka : Option Addr) (wl wc kl kc : Nat) (w : World) (h : vr < 0 ∨ (nd : Int) ≤ vr) (hn : nd ≤ 1048576) :
    Calls Tryz.prog 147 #[.slice a nd c, .agg #[.int .i64 1, .int .i64 vr, .int .i64 A, .int .i64 B, .int .i64 bw, .slice wa wl wc, .slice ka kl kc]] w fun e w' => e = .returned (.iface 199 (.agg #[.string .empty, .int .i64 0])) ∧ Below w.heap.size w w' := by
  have hb0 : Below w.heap.size w (w.alloc (Obj.cells #[Value.int .i64 1, Value.int .i64 vr, Value.int .i64 A, Value.int .i64 B, Value.int .i64 bw, Value.slice wa wl wc, Value.slice ka kl kc] 63)) := (Below.refl _ _).alloc (Nat.le_refl _) _
  have B0 := kide hb0
  clear hb0
  by_cases hv : vr < 0
  · clear h
    go_enter Tryz.func147, Tryz.ntmps147
    go_wp2_with fail
    go_ret
    exact ⟨rfl, B0.out⟩
  have hv2 : (nd : Int) ≤ vr := by omega
  clear h
  go_enter Tryz.func147, Tryz.ntmps147
  go_wp2_with fail
  go_ret
  exact ⟨rfl, B0.out⟩

theorem opOf_var (a : Option Addr) (nd c : Nat) (vr A B bw : Int) (wa ka : Option Addr) (wl wc kl kc : Nat) (w : World) (b o k : Nat) (s : ByteArray) (x : Int) (ha : a = some ⟨b, o, none⟩) (hv : vr = (k : Int)) (hk : k < nd) (hn : nd ≤ 1048576) (h0 : w.cell? ⟨b, o + k * 2, none⟩ = some (.string s)) (h1 : w.cell? ⟨b, o + k * 2 + 1, none⟩ = some (.int .i64 x)) :
    Calls Tryz.prog 147 #[.slice a nd c, .agg #[.int .i64 1, .int .i64 vr, .int .i64 A, .int .i64 B, .int .i64 bw, .slice wa wl wc, .slice ka kl kc]] w fun e w' => e = .returned (.iface 199 (.agg #[.string s, .int .i64 x])) ∧ Below w.heap.size w w' := by
  have hb0 : Below w.heap.size w (w.alloc (Obj.cells #[Value.int .i64 1, Value.int .i64 vr, Value.int .i64 A, Value.int .i64 B, Value.int .i64 bw, Value.slice wa wl wc, Value.slice ka kl kc] 63)) := (Below.refl _ _).alloc (Nat.le_refl _) _
  have B0 := kide hb0
  clear hb0
  subst ha
  subst hv
  have lb : b < w.heap.size := block_lt_of_cell h0
  have hki : (k : Int) < (nd : Int) := by omega
  go_enter Tryz.func147, Tryz.ntmps147
  go_wp2_with fail
  go_ret
  exact ⟨rfl, B0.out⟩

end Go.Proofs.YtdlmgndmfphneaaGreatDoor

/- The program's width of each kind of node. -/
namespace Go.Proofs.YtdlmgndmfphneaaGreatDoor
set_option linter.unusedVariables false
set_option linter.unusedSimpArgs false
open Go.RowKit

set_option maxHeartbeats 1000000 in
theorem varWidth_any (s : ByteArray) (x : Int) (ky : Option Addr) (kl kc : Nat) (w : World) :
    Calls Tryz.prog 182 #[.agg #[.string s, .int .i64 x], .slice ky kl kc] w fun e w' => e = .returned (.tuple #[.int .i64 (bndR x).1, .int .i64 (bndR x).2]) ∧ Below w.heap.size w w' := by
  have hb0 : Below w.heap.size w (w.alloc (Obj.cells #[Value.string s, Value.int .i64 x] 199)) := (Below.refl _ _).alloc (Nat.le_refl _) _
  have B0 := kide hb0
  clear hb0
  go_enter Tryz.func182, Tryz.ntmps182
  go_wp2_with fail
  refine Calls.mono (boundWidth_any x _) ?_
  rintro e w1 ⟨rfl, rfl⟩
  go_wp2_with fail
  go_returns
  exact ⟨rfl, B0.out⟩

set_option maxHeartbeats 1000000 in
theorem bitsWidth_any (bw : Int) (wa : Option Addr) (wc : Nat) (ws : List Nat) (ky : Option Addr) (kl kc : Nat) (w : World) (hr : Rd w wa ws) :
    Calls Tryz.prog 184 #[.agg #[.int .i64 bw, .slice wa ws.length wc], .slice ky kl kc] w fun e w' => e = .returned (.tuple #[.int .i64 (if rightB bw ws = true then (bw, 0) else ((0 : Int), (15 : Int))).1, .int .i64 (if rightB bw ws = true then (bw, 0) else ((0 : Int), (15 : Int))).2]) ∧ Below w.heap.size w w' := by
  have hb0 : Below w.heap.size w (w.alloc (Obj.cells #[Value.int .i64 bw, Value.slice wa ws.length wc] 201)) := (Below.refl _ _).alloc (Nat.le_refl _) _
  have B0 := kide hb0
  clear hb0
  have HOK := kide (fun u (hu : Below w.heap.size w u) => implOk_any bw wa wc ws u (hr.later hu))
  clear hr
  cases hR : rightB bw ws with
  | false =>
    rw [hR] at HOK
    rw [if_neg (by simp)]
    clear hR
    go_enter Tryz.func184, Tryz.ntmps184
    go_wp2_with fail
    refine Calls.mono (HOK.out _ B0.out) ?_
    rintro e w1 ⟨rfl, hb1⟩
    go_wp2_with fail
    go_returns
    exact ⟨rfl, B0.out.trans (hb1.mono B0.out.size)⟩
  | true =>
    rw [hR] at HOK
    rw [if_pos rfl]
    clear hR
    go_enter Tryz.func184, Tryz.ntmps184
    go_wp2_with fail
    refine Calls.mono (HOK.out _ B0.out) ?_
    rintro e w1 ⟨rfl, hb1⟩
    have k0 := kcell hb1 w.heap.size 0 (by simp)
    simp at k0
    go_wp2_with fail
    go_returns
    exact ⟨rfl, B0.out.trans (hb1.mono B0.out.size)⟩

set_option maxHeartbeats 1000000 in
theorem partWidth_any (A B : Int) (ky : Option Addr) (kl kc : Nat) (w : World) (b o : Nat) (q : Int) (ha : ky = some ⟨b, o, none⟩) (hk : kl = 1) (h0 : w.cell? ⟨b, o, none⟩ = some (.int .i64 q)) (hq1 : 1 ≤ q) (hq2 : q ≤ 4096) :
    Calls Tryz.prog 186 #[.agg #[.int .i64 A, .int .i64 B], .slice ky kl kc] w fun e w' => e = .returned (.tuple #[.int .i64 (if B < 0 ∨ A < B ∨ q ≤ A then ((0 : Int), (15 : Int)) else (A - B + 1, 0)).1, .int .i64 (if B < 0 ∨ A < B ∨ q ≤ A then ((0 : Int), (15 : Int)) else (A - B + 1, 0)).2]) ∧ Below w.heap.size w w' := by
  have hb0 : Below w.heap.size w (w.alloc (Obj.cells #[Value.int .i64 A, Value.int .i64 B] 205)) := (Below.refl _ _).alloc (Nat.le_refl _) _
  have B0 := kide hb0
  clear hb0
  subst ha
  subst hk
  have lb : b < w.heap.size := block_lt_of_cell h0
  by_cases h : B < 0 ∨ A < B ∨ q ≤ A
  · rw [if_pos h]
    by_cases h1 : B < 0
    · clear h
      go_enter Tryz.func186, Tryz.ntmps186
      go_wp2_with fail
      try (go_quiet (fail); go_wp2_with fail)
      try (go_quiet (fail); go_wp2_with fail)
      go_returns
      exact ⟨rfl, by first | exact B0.out | exact below_drewN B0.out _ | exact below_drewN (below_drewN B0.out _) _⟩
    by_cases h2 : A < B
    · clear h
      go_enter Tryz.func186, Tryz.ntmps186
      go_wp2_with fail
      try (go_quiet (fail); go_wp2_with fail)
      try (go_quiet (fail); go_wp2_with fail)
      go_returns
      exact ⟨rfl, by first | exact B0.out | exact below_drewN B0.out _ | exact below_drewN (below_drewN B0.out _) _⟩
    have h3 : q ≤ A := by omega
    clear h
    go_enter Tryz.func186, Tryz.ntmps186
    go_wp2_with fail
    try (go_quiet (fail); go_wp2_with fail)
    try (go_quiet (fail); go_wp2_with fail)
    go_returns
    exact ⟨rfl, by first | exact B0.out | exact below_drewN B0.out _ | exact below_drewN (below_drewN B0.out _) _⟩
  · rw [if_neg h]
    have h1 : 0 ≤ B := by omega
    have h2 : B ≤ A := by omega
    have h3 : A < q := by omega
    clear h
    go_enter Tryz.func186, Tryz.ntmps186
    go_wp2_with fail
    try (go_quiet (fail); go_wp2_with fail)
    try (go_quiet (fail); go_wp2_with fail)
    go_returns
    exact ⟨rfl, by first | exact B0.out | exact below_drewN B0.out _ | exact below_drewN (below_drewN B0.out _) _⟩

set_option maxHeartbeats 1000000 in
theorem widenWidth_any (s : ByteArray) (A : Int) (ky : Option Addr) (kl kc : Nat) (w : World) (b o : Nat) (q : Int) (ha : ky = some ⟨b, o, none⟩) (hk : kl = 1) (h0 : w.cell? ⟨b, o, none⟩ = some (.int .i64 q)) (hq1 : 1 ≤ q) (hq2 : q ≤ 4096) :
    Calls Tryz.prog 187 #[.agg #[.string s, .int .i64 A], .slice ky kl kc] w fun e w' => e = .returned (.tuple #[.int .i64 (if 0 ≤ A ∧ A ≤ 4096 then bndR (q + A) else ((0 : Int), (15 : Int))).1, .int .i64 (if 0 ≤ A ∧ A ≤ 4096 then bndR (q + A) else ((0 : Int), (15 : Int))).2]) ∧ Below w.heap.size w w' := by
  have hb0 : Below w.heap.size w (w.alloc (Obj.cells #[Value.string s, Value.int .i64 A] 207)) := (Below.refl _ _).alloc (Nat.le_refl _) _
  have B0 := kide hb0
  clear hb0
  subst ha
  subst hk
  have lb : b < w.heap.size := block_lt_of_cell h0
  by_cases h : 0 ≤ A ∧ A ≤ 4096
  · rw [if_pos h]
    obtain ⟨h1, h2⟩ := h
    go_enter Tryz.func187, Tryz.ntmps187
    go_wp2_with fail
    go_quiet ((go_at_call 183; exact Calls.quiet_of_same (boundWidth_any _ _)))
    go_wp2_with fail
    go_returns
    exact ⟨rfl, by first | exact B0.out | exact below_drewN B0.out _ | exact below_drewN (below_drewN B0.out _) _⟩
  · rw [if_neg h]
    by_cases h1 : A < 0
    · clear h
      go_enter Tryz.func187, Tryz.ntmps187
      go_wp2_with fail
      try (go_quiet (fail); go_wp2_with fail)
      try (go_quiet (fail); go_wp2_with fail)
      go_returns
      exact ⟨rfl, by first | exact B0.out | exact below_drewN B0.out _ | exact below_drewN (below_drewN B0.out _) _⟩
    have h2 : 4096 < A := by omega
    clear h
    go_enter Tryz.func187, Tryz.ntmps187
    go_wp2_with fail
    try (go_quiet (fail); go_wp2_with fail)
    try (go_quiet (fail); go_wp2_with fail)
    go_returns
    exact ⟨rfl, by first | exact B0.out | exact below_drewN B0.out _ | exact below_drewN (below_drewN B0.out _) _⟩

set_option maxHeartbeats 1000000 in
theorem turnWidth_any (s : ByteArray) (A : Int) (ky : Option Addr) (kl kc : Nat) (w : World) (b o : Nat) (q : Int) (ha : ky = some ⟨b, o, none⟩) (hk : kl = 1) (h0 : w.cell? ⟨b, o, none⟩ = some (.int .i64 q)) (hq1 : 1 ≤ q) (hq2 : q ≤ 4096) :
    Calls Tryz.prog 188 #[.agg #[.string s, .int .i64 A], .slice ky kl kc] w fun e w' => e = .returned (.tuple #[.int .i64 (if 0 ≤ A ∧ A ≤ 4096 then (q, 0) else ((0 : Int), (15 : Int))).1, .int .i64 (if 0 ≤ A ∧ A ≤ 4096 then (q, 0) else ((0 : Int), (15 : Int))).2]) ∧ Below w.heap.size w w' := by
  have hb0 : Below w.heap.size w (w.alloc (Obj.cells #[Value.string s, Value.int .i64 A] 209)) := (Below.refl _ _).alloc (Nat.le_refl _) _
  have B0 := kide hb0
  clear hb0
  subst ha
  subst hk
  have lb : b < w.heap.size := block_lt_of_cell h0
  by_cases h : 0 ≤ A ∧ A ≤ 4096
  · rw [if_pos h]
    obtain ⟨h1, h2⟩ := h
    go_enter Tryz.func188, Tryz.ntmps188
    go_wp2_with fail
    try (go_quiet (fail); go_wp2_with fail)
    try (go_quiet (fail); go_wp2_with fail)
    go_returns
    exact ⟨rfl, by first | exact B0.out | exact below_drewN B0.out _ | exact below_drewN (below_drewN B0.out _) _⟩
  · rw [if_neg h]
    by_cases h1 : A < 0
    · clear h
      go_enter Tryz.func188, Tryz.ntmps188
      go_wp2_with fail
      try (go_quiet (fail); go_wp2_with fail)
      try (go_quiet (fail); go_wp2_with fail)
      go_returns
      exact ⟨rfl, by first | exact B0.out | exact below_drewN B0.out _ | exact below_drewN (below_drewN B0.out _) _⟩
    have h2 : 4096 < A := by omega
    clear h
    go_enter Tryz.func188, Tryz.ntmps188
    go_wp2_with fail
    try (go_quiet (fail); go_wp2_with fail)
    try (go_quiet (fail); go_wp2_with fail)
    go_returns
    exact ⟨rfl, by first | exact B0.out | exact below_drewN B0.out _ | exact below_drewN (below_drewN B0.out _) _⟩

set_option maxHeartbeats 1000000 in
theorem repWidth_any (A : Int) (ky : Option Addr) (kl kc : Nat) (w : World) (b o : Nat) (q : Int) (ha : ky = some ⟨b, o, none⟩) (hk : kl = 1) (h0 : w.cell? ⟨b, o, none⟩ = some (.int .i64 q)) (hq1 : 1 ≤ q) (hq2 : q ≤ 4096) :
    Calls Tryz.prog 189 #[.agg #[.int .i64 A], .slice ky kl kc] w fun e w' => e = .returned (.tuple #[.int .i64 (if 1 ≤ A ∧ A ≤ 4096 then bndR (q * A) else ((0 : Int), (15 : Int))).1, .int .i64 (if 1 ≤ A ∧ A ≤ 4096 then bndR (q * A) else ((0 : Int), (15 : Int))).2]) ∧ Below w.heap.size w w' := by
  have hb0 : Below w.heap.size w (w.alloc (Obj.cells #[Value.int .i64 A] 211)) := (Below.refl _ _).alloc (Nat.le_refl _) _
  have B0 := kide hb0
  clear hb0
  subst ha
  subst hk
  have lb : b < w.heap.size := block_lt_of_cell h0
  by_cases h : 1 ≤ A ∧ A ≤ 4096
  · rw [if_pos h]
    obtain ⟨h1, h2⟩ := h
    have hqa : 0 ≤ q * A ∧ q * A ≤ 16777216 := ⟨Int.mul_nonneg (by omega) (by omega), by have := Int.mul_le_mul hq2 h2 (by omega) (by omega); omega⟩
    obtain ⟨hqa1, hqa2⟩ := hqa
    go_enter Tryz.func189, Tryz.ntmps189
    go_wp2_with fail
    go_quiet ((go_at_call 183; exact Calls.quiet_of_same (boundWidth_any _ _)))
    go_wp2_with fail
    go_returns
    exact ⟨rfl, by first | exact B0.out | exact below_drewN B0.out _ | exact below_drewN (below_drewN B0.out _) _⟩
  · rw [if_neg h]
    by_cases h1 : A < 1
    · clear h
      go_enter Tryz.func189, Tryz.ntmps189
      go_wp2_with fail
      try (go_quiet (fail); go_wp2_with fail)
      try (go_quiet (fail); go_wp2_with fail)
      go_returns
      exact ⟨rfl, by first | exact B0.out | exact below_drewN B0.out _ | exact below_drewN (below_drewN B0.out _) _⟩
    have h2 : 4096 < A := by omega
    clear h
    go_enter Tryz.func189, Tryz.ntmps189
    go_wp2_with fail
    try (go_quiet (fail); go_wp2_with fail)
    try (go_quiet (fail); go_wp2_with fail)
    go_returns
    exact ⟨rfl, by first | exact B0.out | exact below_drewN B0.out _ | exact below_drewN (below_drewN B0.out _) _⟩

theorem sumK_append (xs ys : List Int) : sumK (xs ++ ys) = sumK xs + sumK ys := by
  induction xs with
  | nil => simp [sumK]
  | cons x t ih => simp [sumK, ih]; omega
theorem sumK_take {xs : List Int} {k : Nat} (h : k < xs.length) : sumK (xs.take (k + 1)) = sumK (xs.take k) + xs.getD k 0 := by
  rw [List.take_add_one, sumK_append]
  simp [sumK, List.getD, h]
theorem sumK_le {xs : List Int} (h : ∀ x ∈ xs, 1 ≤ x ∧ x ≤ 4096) : 0 ≤ sumK xs ∧ sumK xs ≤ 4096 * xs.length := by
  induction xs with
  | nil => simp [sumK]
  | cons x t ih =>
    have h1 := h x (by simp)
    have h2 := ih (fun y hy => h y (by simp [hy]))
    simp only [sumK, List.length_cons]
    omega

set_option maxHeartbeats 1000000 in
theorem catWidth_any (ky : Option Addr) (n kc : Nat) (ys : List Int) (w : World) (hr : RdI w ky ys) (hn : ys.length = n) (hb : ∀ x ∈ ys, 1 ≤ x ∧ x ≤ 4096) (hl : n ≤ 4096) :
    Calls Tryz.prog 185 #[.agg #[], .slice ky n kc] w fun e w' => e = .returned (.tuple #[.int .i64 (bndR (sumK ys)).1, .int .i64 (bndR (sumK ys)).2]) ∧ Below w.heap.size w w' := by
  subst hn
  have hb0 : Below w.heap.size w (w.alloc (Obj.cells #[] 203)) := (Below.refl _ _).alloc (Nat.le_refl _) _
  have HR := kide (fun u (hu : Below w.heap.size w u) => hr.later hu)
  have HY := kide hb
  clear hr hb
  go_enter Tryz.func185, Tryz.ntmps185
  go_wp2_with fail
  go_loopw [6, 11] (fun q i wr => ∃ k : Nat, k ≤ ys.length ∧ i = .int .i64 k ∧ q = .int .i64 (sumK (ys.take k)) ∧ Below w.heap.size w wr) (fun _ i _ => ys.length - (intOf i).toNat)
  case atStart => exact ⟨0, Nat.zero_le _, rfl, by simp [sumK], by first | exact hb0 | exact Below.refl _ _⟩
  case round =>
    obtain ⟨k, hk, rfl, rfl, hbel⟩ := hrel
    have HB := kide hbel
    by_cases hlt : k < ys.length
    · obtain ⟨-, -, h | ⟨b, o, rfl, hc⟩⟩ := HR.out wr hbel
      · subst h; simp at hlt
      have p0 := hc k hlt
      have hki : (k : Int) < (ys.length : Int) := by omega
      have hst := sumK_take hlt
      have hx := HY.out _ (List.getElem_mem hlt)
      have hxe : ys.getD k 0 = ys[k] := by simp [List.getD, hlt]
      rw [← hxe] at hx
      have hle := sumK_le (xs := ys.take k) (fun x hx => HY.out x (List.mem_of_mem_take hx))
      have htl : (ys.take k).length ≤ 4096 := by simp; omega
      generalize ys.getD k 0 = x at *
      generalize sumK (ys.take k) = Q at *
      generalize (ys.take k).length = L at *
      obtain ⟨hx1, hx2⟩ := hx
      obtain ⟨hle1, hle2⟩ := hle
      have hQ : Q ≤ 16777216 := by omega
      have HST := kide hst
      clear hc hst hxe hbel hb0 hle2 htl
      go_wp2_with fail
      go_roundw
      case rel => exact ⟨k + 1, by omega, by go_num, by rw [HST.out], HB.out⟩
      case measure => simp [intOf]; omega
    · have e : k = ys.length := by omega
      rw [e, List.take_length]
      clear hbel hb0 hlt
      go_wp2_with fail
      refine Calls.mono (boundWidth_any (sumK ys) _) ?_
      rintro e w1 ⟨rfl, rfl⟩
      go_wp2_with fail
      go_returns
      exact ⟨rfl, HB.out⟩

end Go.Proofs.YtdlmgndmfphneaaGreatDoor

/- What the given specification's small helpers of rules answer. -/
namespace Go.Proofs.YtdlmgndmfphneaaGreatDoor
set_option linter.unusedVariables false
set_option linter.unusedSimpArgs false
open Go.RowKit

/-- What a rule makes of a node, and whether it fits: the second is told. -/
def RetN (u : World) (b : Bool) (e : Ending) (w' : World) : Prop := ∃ (k : Int) (va : Option Addr) (vn vc : Nat), e = .returned (.tuple #[.agg #[.int .i64 k, .slice va vn vc], .bool b]) ∧ Below u.heap.size u w'
theorem RetN.low {w u : World} {b : Bool} {e : Ending} {w' : World} (h : RetN u b e w') (hb : Below w.heap.size w u) : RetN w b e w' := by
  obtain ⟨k, va, vn, vc, h1, h2⟩ := h
  exact ⟨k, va, vn, vc, h1, hb.trans (h2.mono hb.size)⟩

theorem l15Kid_any (k : Int) (w : World) : Calls Tryz.prog 44 #[.int .i64 k] w (RetN w true) := by
  have HB := kide (Below.refl w.heap.size w)
  go_enter Tryz.func44, Tryz.ntmps44
  go_wp2_with fail
  exact bodyPost_ret (v := .tuple #[.agg #[.int .i64 k, .slice none 0 0], .bool true]) (by simp [results, Tryz.results44, go_sem]) rfl ⟨k, none, 0, 0, rfl, HB.out.alloc (Nat.le_refl _) _⟩

theorem l15Node_any (op vr A B bw : Int) (a b : Option Addr) (n c m d : Nat) (w : World) : Calls Tryz.prog 45 #[.agg #[.int .i64 op, .int .i64 vr, .int .i64 A, .int .i64 B, .int .i64 bw, .slice a n c, .slice b m d]] w (RetN w true) := by
  have HB := kide (Below.refl w.heap.size w)
  go_enter Tryz.func45, Tryz.ntmps45
  go_wp2_with fail
  exact bodyPost_ret (v := .tuple #[.agg #[.int .i64 (-1), .slice (some ⟨w.heap.size + 1 + 1, 0, none⟩) 1 1], .bool true]) (by simp [results, Tryz.results45, go_sem]) rfl ⟨-1, some ⟨w.heap.size + 1 + 1, 0, none⟩, 1, 1, rfl, ((HB.out.alloc (Nat.le_refl _) _).alloc (by simp) _).alloc (by simp; omega) _⟩

set_option maxHeartbeats 1000000 in
set_option maxRecDepth 100000 in
theorem l15Inner_any (wa ka xa : Option Addr) (op vr A B bw hi lo : Int) (wn wc kc xc : Nat) (ks wd : List Int) (n xn : Nat) (w : World) (hk : RdI w ka ks) (hn : ks.length = n) (hx : RdI w xa wd) (hxn : wd.length = xn) (hxr : ∀ x ∈ wd, 1 ≤ x ∧ x ≤ 4096) (hkr : ∀ k ∈ ks, 0 ≤ k ∧ k < (xn : Int)) (hnn : n ≤ 4096) (h0 : 0 ≤ lo) (h1 : lo ≤ hi) :
    Calls Tryz.prog 47 #[.agg #[.int .i64 op, .int .i64 vr, .int .i64 A, .int .i64 B, .int .i64 bw, .slice wa wn wc, .slice ka n kc], .slice xa xn xc, .int .i64 hi, .int .i64 lo] w fun e w' => ∃ r f : Int, e = .returned (.tuple #[.int .i64 r, .int .i64 f]) ∧ decide (0 ≤ r) = innB wd lo hi ks.reverse 0 ∧ in64 r ∧ Below w.heap.size w w' := by
  have HB := kide ((Below.refl w.heap.size w).alloc (Nat.le_refl _) (Obj.cells #[Value.int .i64 op, Value.int .i64 vr, Value.int .i64 A, Value.int .i64 B, Value.int .i64 bw, Value.slice wa wn wc, Value.slice ka n kc] 63))
  have XB := kide (Bz.new w #[Value.int .i64 op, Value.int .i64 vr, Value.int .i64 A, Value.int .i64 B, Value.int .i64 bw, Value.slice wa wn wc, Value.slice ka n kc] 63)
  have HK := kide hk
  have HX := kide hx
  have HN := kide hn
  have HXN := kide hxn
  have HXR := kide hxr
  have HKR := kide hkr
  have HNN := kide hnn
  have HL := kide (And.intro h0 h1)
  clear hk hx hn hxn hxr hkr h0 h1
  have e9 : Hid (wrap64 ((n : Int) - 1) = (n : Int) - 1) := by show _ = _; unfold wrap64; omega
  clear hnn
  go_enter Tryz.func47, Tryz.ntmps47
  go_wp2_with fail
  obtain ⟨Z, hZ⟩ : ∃ Z, innB wd lo hi ks.reverse 0 = Z := ⟨_, rfl⟩
  have HZ := kide hZ
  clear hZ
  generalize w.alloc (Obj.cells #[Value.int .i64 op, Value.int .i64 vr, Value.int .i64 A, Value.int .i64 B, Value.int .i64 bw, Value.slice wa wn wc, Value.slice ka n kc] 63) = W0 at *
  have x6 := XB.out.cell 6
  simp at x6
  have lx6 := XB.out.lt
  go_loopw [10, 11] (fun f k wr => ∃ (i : Nat) (F : Int), i ≤ n ∧ k = .int .i64 ((i : Int) - 1) ∧ f = .int .i64 F ∧ 0 ≤ F ∧ F ≤ ((n : Int) - i) * 4096 ∧ (lo < F ∧ Z = false ∨ F ≤ lo ∧ Z = innB wd lo hi (ks.take i).reverse F) ∧ wr = W0) (fun _ k _ => (intOf k + 1).toNat)
  case atStart =>
    refine ⟨n, 0, Nat.le_refl _, by rw [e9.out], rfl, by omega, by omega, .inr ⟨HL.out.1, ?_⟩, rfl⟩
    rw [← HZ.out, List.take_of_length_le (by rw [HN.out]; exact Nat.le_refl _)]
  case round =>
    obtain ⟨i, F, hi9, rfl, rfl, hF0, hFB, hP, hwe⟩ := hrel
    subst hwe
    cases i with
    | zero =>
      have hz : Hid (Z = false) := by
        show _ = _
        rcases hP with ⟨-, h⟩ | ⟨-, h⟩
        · exact h
        · rw [h]; simp [innB]
      clear hP hFB hF0
      go_wp2_with fail
      go_returns
      exact ⟨-1, 0, rfl, by rw [HZ.out, hz.out]; rfl, by unfold in64; omega, HB.out⟩
    | succ i =>
      obtain ⟨-, -, h0 | ⟨b2, o2, rfl, hc2⟩⟩ := HK.out
      · have := HN.out; rw [h0] at *; simp at *; omega
      have hil : i < ks.length := by rw [HN.out]; omega
      have hik : ks[i]? = some (ks.getD i 0) := by simp [List.getD, hil]
      have q0 := hc2 i hil
      have hkr := HKR.out _ (List.mem_of_getElem? hik)
      obtain ⟨j, hj⟩ : ∃ j : Nat, ks.getD i 0 = (j : Int) := ⟨(ks.getD i 0).toNat, by omega⟩
      have hst := innB_step (wd := wd) (lo := lo) (hi := hi) (f := F) hik
      rw [hj] at q0 hkr
      simp only [hj, Int.toNat_natCast] at hst
      have hjn : j < xn := by omega
      obtain ⟨-, -, h0 | ⟨xb, xo, rfl, hcx⟩⟩ := HX.out
      · have := HXN.out; rw [h0] at *; simp at *; omega
      have q1 := hcx j (by rw [HXN.out]; exact hjn)
      have hW := wd_pos HXR.out (i := j) (by rw [HXN.out]; exact hjn)
      have l2 := block_lt_of_cell q0
      have l3 := block_lt_of_cell q1
      rw [← kcell HB.out _ _ l2] at q0
      rw [← kcell HB.out _ _ l3] at q1
      generalize wd.getD j 0 = W at *
      have j0 : (j : Int) < (xn : Int) := by omega
      have i0 : (i : Int) < (n : Int) := by omega
      have e1 : ((i + 1 : Nat) : Int) - 1 = (i : Int) := by omega
      have HI9 : Hid (i < n) := by show _ < _; omega
      have hn4 := HNN.out
      have HF := kide (And.intro hF0 (And.intro hFB (And.intro hW.1 hW.2)))
      have fw : -9223372036854775808 ≤ F + W ∧ F + W ≤ 9223372036854775807 := by omega
      have HPP := kide hP
      have HST := kide hst
      have J64 : Hid (in64 (j : Int)) := by
        have := HX.out.1
        have := HXN.out
        show _ ∧ _
        omega
      clear hP hst hcx hc2 hik hil hkr hj hjn hn4 hW hF0 hFB hi9 l2 l3
      by_cases hc1 : F ≤ lo
      · by_cases hc2 : hi < F + W
        · have hz : Hid (Z = true) := by
            show _ = _
            rcases HPP.out with ⟨h, -⟩ | ⟨-, h⟩
            · omega
            · rw [h, HST.out, if_pos (by have := HL.out.2; omega)]; simpa using hc2
          go_wp2_with fail
          go_returns
          first | exact ⟨(j : Int), ⟨F, rfl⟩, by rw [HZ.out, hz.out]; simp, J64.out, HB.out⟩ | exact ⟨(j : Int), F, rfl, by rw [HZ.out, hz.out]; simp, J64.out, HB.out⟩
        · have hz : Hid (lo < F + W ∧ Z = false ∨ F + W ≤ lo ∧ Z = innB wd lo hi (ks.take i).reverse (F + W)) := by
            show _ ∨ _
            rcases HPP.out with ⟨h, -⟩ | ⟨-, h⟩
            · omega
            · rw [HST.out] at h
              by_cases h3 : lo < F + W
              · rw [if_pos h3] at h
                exact .inl ⟨h3, by rw [h]; simpa using hc2⟩
              · rw [if_neg h3] at h
                exact .inr ⟨by omega, h⟩
          go_wp2_with fail
          have hw9 : wrap64 ((i : Int) - 1) = (i : Int) - 1 := by unfold wrap64; have := HI9.out; have := HNN.out; omega
          refine ⟨⟨i, F + W, by have := HI9.out; omega, by rw [hw9], rfl, by have := HF.out; omega, by have := HF.out; have := HI9.out; omega, hz.out, trivial⟩, ?_⟩
          rw [hw9]
          simp only [intOf]
          omega
      · have hz : Hid (lo < F + W ∧ Z = false ∨ F + W ≤ lo ∧ Z = innB wd lo hi (ks.take i).reverse (F + W)) := by
          show _ ∨ _
          rcases HPP.out with ⟨h, h2⟩ | ⟨h, -⟩
          · exact .inl ⟨by have := HF.out; omega, h2⟩
          · omega
        go_wp2_with fail
        have hw9 : wrap64 ((i : Int) - 1) = (i : Int) - 1 := by unfold wrap64; have := HI9.out; have := HNN.out; omega
        refine ⟨⟨i, F + W, by have := HI9.out; omega, by rw [hw9], rfl, by have := HF.out; omega, by have := HF.out; have := HI9.out; omega, hz.out, trivial⟩, ?_⟩
        rw [hw9]
        simp only [intOf]
        omega

end Go.Proofs.YtdlmgndmfphneaaGreatDoor

/- The given specification's l15Fit, rule by rule. -/
namespace Go.Proofs.YtdlmgndmfphneaaGreatDoor
set_option linter.unusedVariables false
set_option linter.unusedSimpArgs false
open Go.RowKit

theorem OW.moveW {w w' : World} {B : Nat} {v : Value} {l : List Int} (h : OW w B v l) (hk : ∀ b, v.ownBlock = some b → w'.heap[b]? = w.heap[b]?) : OW w' B v l := by
  refine ⟨h.1, ?_⟩
  rcases h.2 with h0 | ⟨g, cap, cur, rfl, hg, hh, r⟩
  · exact .inl h0
  · exact .inr ⟨g, cap, cur, rfl, hg, by rw [hk g rfl]; exact hh, r⟩
theorem bzr {w : World} {o1 o3 o4 : Obj} : Bz ((((w.alloc o1).alloc (Obj.cells #[Value.int .i64 0, Value.slice none 0 0] 53)).alloc o3).alloc o4) (w.heap.size + 1) #[Value.int .i64 0, Value.slice none 0 0] 53 := by
  have h9 := Bz.new (w.alloc o1) #[Value.int .i64 0, Value.slice none 0 0] 53
  rw [show (w.alloc o1).heap.size = w.heap.size + 1 by simp] at h9
  exact (h9.later ((Below.refl _ _).alloc (Nat.le_refl _) _)).later ((Below.refl _ _).alloc (Nat.le_refl _) _)
theorem bzr5 {w : World} {o1 o3 o4 o5 : Obj} : Bz (((((w.alloc o1).alloc (Obj.cells #[Value.int .i64 0, Value.slice none 0 0] 53)).alloc o3).alloc o4).alloc o5) (w.heap.size + 1) #[Value.int .i64 0, Value.slice none 0 0] 53 := bzr.later ((Below.refl _ _).alloc (Nat.le_refl _) _)

end Go.Proofs.YtdlmgndmfphneaaGreatDoor
