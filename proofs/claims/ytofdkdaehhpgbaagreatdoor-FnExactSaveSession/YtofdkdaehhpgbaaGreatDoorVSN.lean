/- SaveSession, on the given side: terms. -/
import Derived.Test.YtofdkdaehhpgbaaGreatDoorVSL
import Derived.Test.YtofdkdaehhpgbaaGreatDoorVSG
namespace Go.Proofs.YtofdkdaehhpgbaaGreatDoor
set_option linter.unusedVariables false
set_option linter.unusedSimpArgs false
open Go.RowKit

def okM (x : Tc) : Prop := okN x ∧ ∀ j, x.bw.toNat ≤ j → tb x.ws j = false
theorem flatN_le {α : Type} (f : α → List Nat) (c : Nat) : ∀ (l : List α), (∀ x ∈ l, (f x).length ≤ c) → (l.flatMap f).length ≤ l.length * c
  | [], _ => by simp
  | x :: t, h => by
    rw [List.flatMap_cons, List.length_append, List.length_cons, Nat.succ_mul]
    have := h x (List.mem_cons_self ..)
    have := flatN_le f c t (fun y hy => h y (List.mem_cons_of_mem _ hy))
    omega
theorem kids_le {ks : List Int} (h : ∀ k ∈ ks, in64 k) : (ks.flatMap numB).length ≤ ks.length * 11 := flatN_le numB 11 ks (fun k hk => numB_le (h k hk))
theorem take_le {α : Type} (f : α → List Nat) (c : Nat) (l : List α) (k : Nat) (h : ∀ x ∈ l, (f x).length ≤ c) : ((l.take k).flatMap f).length ≤ k * c := by
  have h1 := flatN_le f c (l.take k) (fun x hx => h x (List.mem_of_mem_take hx))
  have h2 : (l.take k).length ≤ k := by simp; omega
  have h3 : (l.take k).length * c ≤ k * c := Nat.mul_le_mul_right _ h2
  omega
theorem bits_le {K : Nat} (hK : K ≤ 4096) (xs : List Nat) : (bitsB K xs).length ≤ 530 := by
  unfold bitsB
  rw [List.length_append, rowB_len]
  have := numB_le (n := (K : Int)) ⟨by omega, by omega⟩
  omega
theorem node_le {x : Tg} (h1 : in64 x.ct.op) (h2 : in64 x.ct.vr) (h3 : in64 x.ct.a) (h4 : in64 x.ct.b) (hok : okN x.ct) (hk : ∀ k ∈ x.ct.ks, in64 k) (hl : x.ct.ks.length ≤ 1048576) : (nodeG x).length ≤ 12000000 := by
  unfold nodeG nodeB kidsB
  simp only [List.length_append]
  have := numB_le h1
  have := numB_le h2
  have := numB_le h3
  have := numB_le h4
  have := bits_le (K := x.ct.bw.toNat) (by have := hok.1; have := hok.2.1; omega) x.ct.ws
  have := numB_le (n := (x.ct.ks.length : Int)) ⟨by omega, by omega⟩
  have := kids_le hk
  omega
theorem wrap_succ {q : Nat} (h : q ≤ 2000000) : wrap64 ((q : Int) + 1) = ((q + 1 : Nat) : Int) := by
  unfold wrap64
  omega
theorem Ky.undrew {B : Nat} {w w' : World} (h : Ky B w.drew w') : Ky B w w' := ⟨kundrew h.1, h.2⟩
/-- What is read of nodes. -/
theorem RdT.facts {w : World} {a : Option Addr} {l : List Tg} (h : RdT w a l) {k : Nat} {x : Tg} (gx : l[k]? = some x) : ∃ b o, a = some ⟨b, o, none⟩ ∧ TgAt w b (o + k * 7) x := by
  obtain ⟨-, h0 | ⟨b, o, e, hc⟩⟩ := h
  · rw [h0] at gx; simp at gx
  · exact ⟨b, o, e, hc k x gx⟩

set_option maxHeartbeats 400000 in
set_option maxRecDepth 20000 in
theorem l22Term_any (B n c : Nat) (a : Option Addr) (v : Value) (bs : List Nat) (l : List Tg) (w0 w : World) (h : OwB w B v bs) (hB : B ≤ w.heap.size) (hb : Below w0.heap.size w0 w) (hB0 : w0.heap.size ≤ B) (hr : RdT w0 a l) (hn : l.length = n) (hok : ∀ x ∈ l, okM x.ct) (hl : bs.length ≤ 60000000000000) :
    Calls Tryz.prog 38 #[v, .agg #[.slice a n c]] w (RetO B (bs ++ (numB n ++ l.flatMap nodeG)) w) := by
  have hlen : n ≤ 1048576 := by rw [← hn]; exact hr.1
  have hbx : Below w.heap.size w (w.alloc (.cells #[Value.slice a n c] 66)) := (Below.refl _ _).alloc (Nat.le_refl _) _
  have X0 := kide (Bz.new w #[Value.slice a n c] 66)
  have HC := kide (l22Put_any B v bs (n : Int) _ (h.later hbx) (Nat.le_trans hB hbx.size) ⟨by omega, by omega⟩ (by omega))
  have K0 := kide (Ky.ofB hbx hB)
  rw [← List.append_assoc]
  have HLL : Hid ((bs ++ numB (n : Int)).length ≤ 61000000000000) := by show _ ≤ _; rw [List.length_append]; have := numB_le (n := (n : Int)) ⟨by omega, by omega⟩; omega
  generalize bs ++ numB (n : Int) = cs at *
  have HR := kide (fun u (hu : Below w0.heap.size w0 u) => hr.later hu)
  have HNE : Hid (∀ x ∈ l, (nodeG x).length ≤ 12000000 ∧ x.ct.ks.length ≤ 1048576) := fun x hx => by
    obtain ⟨k, gx⟩ := List.getElem?_of_mem hx
    obtain ⟨b, o, -, -, -, hk, i1, i2, i3, i4, -⟩ := hr.facts gx
    exact ⟨node_le i1 i2 i3 i4 (hok x hx).1 hk.2.1 hk.1, hk.1⟩
  have HW0 := kide hb
  have HNL := kide hn
  have HHB := kide hB
  have HHB0 := kide hB0
  have HLN := kide hlen
  clear h hbx hr hb hn hl hB hB0 hlen
  go_enter Tryz.func38, Tryz.ntmps38
  go_wp2_with fail
  generalize w.alloc (.cells #[Value.slice a n c] 66) = W at *
  refine Calls.mono HC.out ?_
  rintro e w1 ⟨v1, rfl, h1, h2⟩
  have O1 := kide h1
  have K1 := kide (K0.out.trans h2)
  have X1 := kide (X0.out.ky h2 (by decide))
  clear h1 h2 HC K0 X0
  go_wp2_with fail
  go_loopw [0, 5] (fun v i wr => ∃ k : Nat, k ≤ n ∧ i = .int .i64 (k : Int) ∧ OwB wr B v (cs ++ (l.take k).flatMap nodeG) ∧ Ky B w wr ∧ Bz wr w.heap.size #[Value.slice a n c] 66) (fun _ i _ => n - (intOf i).toNat)
  case atStart => exact ⟨0, Nat.zero_le _, rfl, by simpa using O1.out, K1.out, X1.out⟩
  case round =>
    obtain ⟨k, hk, rfl, ho, hky, hx⟩ := hrel
    have HO := kide ho
    have HKY := kide hky
    have HX := kide hx
    have x0 := hx.cell 0
    simp at x0
    have hxl := hx.lt
    have BW := kide (HW0.out.trans (hky.1.mono HHB0.out))
    have HSW : Hid (B ≤ wr.heap.size) := Nat.le_trans HHB.out hky.1.size
    clear ho hky hx
    by_cases hlt : k < n
    · obtain ⟨x, gx⟩ : ∃ y, l[k]? = some y := ⟨l[k]'(by rw [HNL.out]; exact hlt), List.getElem?_eq_getElem _⟩
      have HXM := kide (List.mem_of_getElem? gx)
      have HST : Hid ((l.take (k + 1)).flatMap nodeG = (l.take k).flatMap nodeG ++ nodeG x) := by
        show _ = _
        rw [List.take_add_one, gx, List.flatMap_append]
        simp
      have HLC : Hid ((cs ++ (l.take k).flatMap nodeG).length ≤ 80000000000000) := by
        show _ ≤ _
        rw [List.length_append]
        have h1 := take_le nodeG 12000000 l k (fun y hy => (HNE.out y hy).1)
        have := HLL.out
        have := HLN.out
        omega
      obtain ⟨b, o, ea, ⟨⟨p0, p1, p2, p3, p4, p5, p6⟩, -⟩⟩ := (HR.out wr BW.out).facts gx
      obtain ⟨b', o', ea', -, hw1, hw2, i1, i2, i3, i4, -⟩ := (HR.out w0 (Below.refl _ _)).facts gx
      subst ea
      cases ea'
      simp only [Tg.hd] at p0 p1 p2 p3 p4 p5 p6
      have HOM := kide (hok x HXM.out)
      obtain ⟨⟨op, vr, na, nb, bw, ws, ks⟩, wa, wc, ka, kc⟩ := x
      simp only [] at p0 p1 p2 p3 p4 p5 p6 hw1 hw2 i1 i2 i3 i4 HOM
      obtain ⟨K, rfl⟩ := Int.eq_ofNat_of_zero_le (show 0 ≤ bw from HOM.out.1.1)
      obtain ⟨wn, hwn⟩ : ∃ x, ws.length = x := ⟨_, rfl⟩
      obtain ⟨kn, hkn⟩ : ∃ x, ks.length = x := ⟨_, rfl⟩
      rw [hwn] at p5
      rw [hkn] at p6
      have HWN := kide hwn
      have HKN := kide hkn
      obtain ⟨LC, hLC⟩ : ∃ x, cs ++ (l.take k).flatMap nodeG = x := ⟨_, rfl⟩
      rw [hLC] at HO HLC
      have HLCE := kide hLC
      have i0 : (k : Int) < (n : Int) := by omega
      have HKL := kide hlt
      have HKK := kide hk
      have hbx : Below wr.heap.size wr (wr.alloc (.cells #[Value.int .i64 op, Value.int .i64 vr, Value.int .i64 na, Value.int .i64 nb, Value.int .i64 (K : Int), Value.slice wa wn wc, Value.slice ka kn kc] 108)) := (Below.refl _ _).alloc (Nat.le_refl _) _
      have YQ := kide (Bz.new wr #[Value.int .i64 op, Value.int .i64 vr, Value.int .i64 na, Value.int .i64 nb, Value.int .i64 (K : Int), Value.slice wa wn wc, Value.slice ka kn kc] 108)
      have OQ := kide (HO.out.later hbx)
      have KQ := kide (HKY.out.trans (Ky.ofB hbx HSW.out))
      have XQ := kide (HX.out.later hbx)
      have SQ : Hid (B ≤ (wr.alloc (.cells #[Value.int .i64 op, Value.int .i64 vr, Value.int .i64 na, Value.int .i64 nb, Value.int .i64 (K : Int), Value.slice wa wn wc, Value.slice ka kn kc] 108)).heap.size) := Nat.le_trans HSW.out hbx.size
      have HB0 : Hid (LC.length ≤ 99000000000000) := by show _ ≤ _; have := HLC.out; omega
      have HB1 : Hid ((LC ++ numB op).length ≤ 99000000000000) := by show _ ≤ _; rw [List.length_append]; have := HLC.out; have := numB_le i1; omega
      have HB2 : Hid (((LC ++ numB op) ++ numB vr).length ≤ 99000000000000) := by show _ ≤ _; rw [List.length_append, List.length_append]; have := HLC.out; have := numB_le i1; have := numB_le i2; omega
      have HB3 : Hid ((((LC ++ numB op) ++ numB vr) ++ numB na).length ≤ 99000000000000) := by show _ ≤ _; rw [List.length_append, List.length_append, List.length_append]; have := HLC.out; have := numB_le i1; have := numB_le i2; have := numB_le i3; omega
      have HB4 : Hid (((((LC ++ numB op) ++ numB vr) ++ numB na) ++ numB nb).length ≤ 97000000000000) := by show _ ≤ _; rw [List.length_append, List.length_append, List.length_append, List.length_append]; have := HLC.out; have := numB_le i1; have := numB_le i2; have := numB_le i3; have := numB_le i4; omega
      clear hbx hLC hwn hkn gx hk hlt
      go_wp2_with fail
      obtain ⟨g, hg⟩ : ∃ g, wr.heap.size = g := ⟨_, rfl⟩
      rw [hg] at YQ
      have HGL : Hid (w.heap.size < g) := by show _ < _; rw [← hg]; exact HX.out.lt
      simp only [hg]
      clear hg p0 p1 p2 p3 p4 p5 p6 x0 hxl
      generalize (wr.alloc (.cells #[Value.int .i64 op, Value.int .i64 vr, Value.int .i64 na, Value.int .i64 nb, Value.int .i64 (K : Int), Value.slice wa wn wc, Value.slice ka kn kc] 108)) = WQ at *
      refine wp_region_x (SA := fun _ => False) (SB := fun uu => uu.cell? ⟨g, 0, none⟩ = some (Value.int .i64 op) ∧ uu.cell? ⟨g, 1, none⟩ = some (Value.int .i64 vr) ∧ uu.cell? ⟨g, 2, none⟩ = some (Value.int .i64 na) ∧ uu.cell? ⟨g, 3, none⟩ = some (Value.int .i64 nb)) (k := 999) (by kernel_rfl) ?_
      have hbd : Below WQ.heap.size WQ WQ.drew := (Below.refl _ _).drew
      have OO0 := kide (OQ.out.later hbd)
      have YY0 := kide (YQ.out.later hbd)
      have XX0 := kide (XQ.out.later hbd)
      have KK0 := kide (KQ.out.trans (Ky.ofB hbd SQ.out))
      have HS0 : Hid (B ≤ WQ.drew.heap.size) := Nat.le_trans SQ.out hbd.size
      clear hbd
      generalize WQ.drew = m0 at *
      have c0_0 : m0.cell? ⟨g, 0, none⟩ = some (Value.int .i64 op) := YY0.out.cell 0
      have c1_0 : m0.cell? ⟨g, 1, none⟩ = some (Value.int .i64 vr) := YY0.out.cell 1
      have c2_0 : m0.cell? ⟨g, 2, none⟩ = some (Value.int .i64 na) := YY0.out.cell 2
      have c3_0 : m0.cell? ⟨g, 3, none⟩ = some (Value.int .i64 nb) := YY0.out.cell 3
      have hs0 : Hid ((fun uu => uu.cell? ⟨g, 0, none⟩ = some (Value.int .i64 op) ∧ uu.cell? ⟨g, 1, none⟩ = some (Value.int .i64 vr) ∧ uu.cell? ⟨g, 2, none⟩ = some (Value.int .i64 na) ∧ uu.cell? ⟨g, 3, none⟩ = some (Value.int .i64 nb)) m0) := ⟨c0_0, c1_0, c2_0, c3_0⟩
      try go_simp
      refine wpAnyX_both (T := (fun _ => True)) (i := 0) (v := u0) rfl (by kernel_rfl) (by kernel_rfl) (by kernel_rfl) (fun _ _ _ h => by first | exact h | exact h.elim) (by decide) (fun _ _ => trivial) (fun _ _ => trivial) (Sx.behind (by kernel_rfl) hs0.out) (Or.inl ⟨by rfl, fun uu hu => by go_simp⟩) ?_
      try go_simp
      refine wpAnyX_both (T := (fun _ => True)) (i := 1) (v := Value.pointer (some ⟨g, 0, none⟩)) rfl (by kernel_rfl) (by kernel_rfl) (by kernel_rfl) (fun _ _ _ h => by first | exact h | exact h.elim) (by decide) (fun _ _ => trivial) (fun _ _ => trivial) (Sx.behind (by kernel_rfl) hs0.out) (Or.inl ⟨by rfl, fun uu hu => by go_simp⟩) ?_
      try go_simp
      refine wpAnyX_both (T := (fun uu => uu.cell? ⟨g, 0, none⟩ = some (Value.int .i64 op) ∧ uu.cell? ⟨g, 1, none⟩ = some (Value.int .i64 vr) ∧ uu.cell? ⟨g, 2, none⟩ = some (Value.int .i64 na) ∧ uu.cell? ⟨g, 3, none⟩ = some (Value.int .i64 nb))) (i := 2) (v := Value.int .i64 op) rfl (by kernel_rfl) (by kernel_rfl) (by kernel_rfl) (fun _ _ _ h => by first | exact h | exact h.elim) (by decide) (fun _ h => h.elim) (fun _ h => h) (Sx.behind (by kernel_rfl) hs0.out) (Or.inl ⟨by rfl, fun uu hu => by obtain ⟨e0, e1, e2, e3⟩ := hu; go_simp⟩) ?_
      try go_simp
      refine wpAnyX_both (T := (fun _ => True)) (i := 4) (v := Value.pointer (some ⟨g, 1, none⟩)) rfl (by kernel_rfl) (by kernel_rfl) (by kernel_rfl) (fun _ _ _ h => by first | exact h | exact h.elim) (by decide) (fun _ _ => trivial) (fun _ _ => trivial) (Sx.behind (by kernel_rfl) hs0.out) (Or.inl ⟨by rfl, fun uu hu => by go_simp⟩) ?_
      try go_simp
      refine wpAnyX_both (T := (fun uu => uu.cell? ⟨g, 0, none⟩ = some (Value.int .i64 op) ∧ uu.cell? ⟨g, 1, none⟩ = some (Value.int .i64 vr) ∧ uu.cell? ⟨g, 2, none⟩ = some (Value.int .i64 na) ∧ uu.cell? ⟨g, 3, none⟩ = some (Value.int .i64 nb))) (i := 5) (v := Value.int .i64 vr) rfl (by kernel_rfl) (by kernel_rfl) (by kernel_rfl) (fun _ _ _ h => by first | exact h | exact h.elim) (by decide) (fun _ h => h.elim) (fun _ h => h) (Sx.behind (by kernel_rfl) hs0.out) (Or.inl ⟨by rfl, fun uu hu => by obtain ⟨e0, e1, e2, e3⟩ := hu; go_simp⟩) ?_
      try go_simp
      refine wpAnyX_both (T := (fun _ => True)) (i := 7) (v := Value.pointer (some ⟨g, 2, none⟩)) rfl (by kernel_rfl) (by kernel_rfl) (by kernel_rfl) (fun _ _ _ h => by first | exact h | exact h.elim) (by decide) (fun _ _ => trivial) (fun _ _ => trivial) (Sx.behind (by kernel_rfl) hs0.out) (Or.inl ⟨by rfl, fun uu hu => by go_simp⟩) ?_
      try go_simp
      refine wpAnyX_both (T := (fun uu => uu.cell? ⟨g, 0, none⟩ = some (Value.int .i64 op) ∧ uu.cell? ⟨g, 1, none⟩ = some (Value.int .i64 vr) ∧ uu.cell? ⟨g, 2, none⟩ = some (Value.int .i64 na) ∧ uu.cell? ⟨g, 3, none⟩ = some (Value.int .i64 nb))) (i := 8) (v := Value.int .i64 na) rfl (by kernel_rfl) (by kernel_rfl) (by kernel_rfl) (fun _ _ _ h => by first | exact h | exact h.elim) (by decide) (fun _ h => h.elim) (fun _ h => h) (Sx.behind (by kernel_rfl) hs0.out) (Or.inl ⟨by rfl, fun uu hu => by obtain ⟨e0, e1, e2, e3⟩ := hu; go_simp⟩) ?_
      try go_simp
      refine wpAnyX_both (T := (fun _ => True)) (i := 10) (v := Value.pointer (some ⟨g, 3, none⟩)) rfl (by kernel_rfl) (by kernel_rfl) (by kernel_rfl) (fun _ _ _ h => by first | exact h | exact h.elim) (by decide) (fun _ _ => trivial) (fun _ _ => trivial) (Sx.behind (by kernel_rfl) hs0.out) (Or.inl ⟨by rfl, fun uu hu => by go_simp⟩) ?_
      try go_simp
      refine wpAnyX_both (T := (fun uu => uu.cell? ⟨g, 0, none⟩ = some (Value.int .i64 op) ∧ uu.cell? ⟨g, 1, none⟩ = some (Value.int .i64 vr) ∧ uu.cell? ⟨g, 2, none⟩ = some (Value.int .i64 na) ∧ uu.cell? ⟨g, 3, none⟩ = some (Value.int .i64 nb))) (i := 11) (v := Value.int .i64 nb) rfl (by kernel_rfl) (by kernel_rfl) (by kernel_rfl) (fun _ _ _ h => by first | exact h | exact h.elim) (by decide) (fun _ h => h.elim) (fun _ h => h) (Sx.behind (by kernel_rfl) hs0.out) (Or.inl ⟨by rfl, fun uu hu => by obtain ⟨e0, e1, e2, e3⟩ := hu; go_simp⟩) ?_
      try go_simp
      refine wpAnyX_ready (rs := [3]) (by kernel_rfl) (by simp) (AllX.cons rfl (fun K hK => ?_) AllX.nil)
      go_simp
      refine Calls.mono (l22Put_any B _ LC op m0 OO0.out HS0.out i1 HB0.out) ?_
      rintro e m1 ⟨z1, rfl, ho, hk⟩
      have OO1 := kide ho
      have YY1 := kide (YY0.out.ky hk (by decide))
      have KK1 := kide (KK0.out.trans hk)
      have XX1 := kide (XX0.out.ky hk (by decide))
      have HS1 := kide (Nat.le_trans HS0.out hk.1.size)
      clear ho hk
      have c0_1 : m1.cell? ⟨g, 0, none⟩ = some (Value.int .i64 op) := YY1.out.cell 0
      have c1_1 : m1.cell? ⟨g, 1, none⟩ = some (Value.int .i64 vr) := YY1.out.cell 1
      have c2_1 : m1.cell? ⟨g, 2, none⟩ = some (Value.int .i64 na) := YY1.out.cell 2
      have c3_1 : m1.cell? ⟨g, 3, none⟩ = some (Value.int .i64 nb) := YY1.out.cell 3
      have hs1 : Hid ((fun uu => uu.cell? ⟨g, 0, none⟩ = some (Value.int .i64 op) ∧ uu.cell? ⟨g, 1, none⟩ = some (Value.int .i64 vr) ∧ uu.cell? ⟨g, 2, none⟩ = some (Value.int .i64 na) ∧ uu.cell? ⟨g, 3, none⟩ = some (Value.int .i64 nb)) m1) := ⟨c0_1, c1_1, c2_1, c3_1⟩
      refine hK _ _ (Sx.behind (by kernel_rfl) hs1.out) ?_
      clear hK K
      try go_simp
      refine wpAnyX_ready (rs := [6]) (by kernel_rfl) (by simp) (AllX.cons rfl (fun K hK => ?_) AllX.nil)
      go_simp
      refine Calls.mono (l22Put_any B _ (LC ++ numB op) vr m1 OO1.out HS1.out i2 HB1.out) ?_
      rintro e m2 ⟨z2, rfl, ho, hk⟩
      have OO2 := kide ho
      have YY2 := kide (YY1.out.ky hk (by decide))
      have KK2 := kide (KK1.out.trans hk)
      have XX2 := kide (XX1.out.ky hk (by decide))
      have HS2 := kide (Nat.le_trans HS1.out hk.1.size)
      clear ho hk
      have c0_2 : m2.cell? ⟨g, 0, none⟩ = some (Value.int .i64 op) := YY2.out.cell 0
      have c1_2 : m2.cell? ⟨g, 1, none⟩ = some (Value.int .i64 vr) := YY2.out.cell 1
      have c2_2 : m2.cell? ⟨g, 2, none⟩ = some (Value.int .i64 na) := YY2.out.cell 2
      have c3_2 : m2.cell? ⟨g, 3, none⟩ = some (Value.int .i64 nb) := YY2.out.cell 3
      have hs2 : Hid ((fun uu => uu.cell? ⟨g, 0, none⟩ = some (Value.int .i64 op) ∧ uu.cell? ⟨g, 1, none⟩ = some (Value.int .i64 vr) ∧ uu.cell? ⟨g, 2, none⟩ = some (Value.int .i64 na) ∧ uu.cell? ⟨g, 3, none⟩ = some (Value.int .i64 nb)) m2) := ⟨c0_2, c1_2, c2_2, c3_2⟩
      refine hK _ _ (Sx.behind (by kernel_rfl) hs2.out) ?_
      clear hK K
      try go_simp
      refine wpAnyX_ready (rs := [9]) (by kernel_rfl) (by simp) (AllX.cons rfl (fun K hK => ?_) AllX.nil)
      go_simp
      refine Calls.mono (l22Put_any B _ ((LC ++ numB op) ++ numB vr) na m2 OO2.out HS2.out i3 HB2.out) ?_
      rintro e m3 ⟨z3, rfl, ho, hk⟩
      have OO3 := kide ho
      have YY3 := kide (YY2.out.ky hk (by decide))
      have KK3 := kide (KK2.out.trans hk)
      have XX3 := kide (XX2.out.ky hk (by decide))
      have HS3 := kide (Nat.le_trans HS2.out hk.1.size)
      clear ho hk
      have c0_3 : m3.cell? ⟨g, 0, none⟩ = some (Value.int .i64 op) := YY3.out.cell 0
      have c1_3 : m3.cell? ⟨g, 1, none⟩ = some (Value.int .i64 vr) := YY3.out.cell 1
      have c2_3 : m3.cell? ⟨g, 2, none⟩ = some (Value.int .i64 na) := YY3.out.cell 2
      have c3_3 : m3.cell? ⟨g, 3, none⟩ = some (Value.int .i64 nb) := YY3.out.cell 3
      have hs3 : Hid ((fun uu => uu.cell? ⟨g, 0, none⟩ = some (Value.int .i64 op) ∧ uu.cell? ⟨g, 1, none⟩ = some (Value.int .i64 vr) ∧ uu.cell? ⟨g, 2, none⟩ = some (Value.int .i64 na) ∧ uu.cell? ⟨g, 3, none⟩ = some (Value.int .i64 nb)) m3) := ⟨c0_3, c1_3, c2_3, c3_3⟩
      refine hK _ _ (Sx.behind (by kernel_rfl) hs3.out) ?_
      clear hK K
      try go_simp
      refine wpAnyX_ready (rs := [12]) (by kernel_rfl) (by simp) (AllX.cons rfl (fun K hK => ?_) AllX.nil)
      go_simp
      refine Calls.mono (l22Put_any B _ (((LC ++ numB op) ++ numB vr) ++ numB na) nb m3 OO3.out HS3.out i4 HB3.out) ?_
      rintro e m4 ⟨z4, rfl, ho, hk⟩
      have OO4 := kide ho
      have YY4 := kide (YY3.out.ky hk (by decide))
      have KK4 := kide (KK3.out.trans hk)
      have XX4 := kide (XX3.out.ky hk (by decide))
      have HS4 := kide (Nat.le_trans HS3.out hk.1.size)
      clear ho hk
      have c0_4 : m4.cell? ⟨g, 0, none⟩ = some (Value.int .i64 op) := YY4.out.cell 0
      have c1_4 : m4.cell? ⟨g, 1, none⟩ = some (Value.int .i64 vr) := YY4.out.cell 1
      have c2_4 : m4.cell? ⟨g, 2, none⟩ = some (Value.int .i64 na) := YY4.out.cell 2
      have c3_4 : m4.cell? ⟨g, 3, none⟩ = some (Value.int .i64 nb) := YY4.out.cell 3
      have hs4 : Hid ((fun uu => uu.cell? ⟨g, 0, none⟩ = some (Value.int .i64 op) ∧ uu.cell? ⟨g, 1, none⟩ = some (Value.int .i64 vr) ∧ uu.cell? ⟨g, 2, none⟩ = some (Value.int .i64 na) ∧ uu.cell? ⟨g, 3, none⟩ = some (Value.int .i64 nb)) m4) := ⟨c0_4, c1_4, c2_4, c3_4⟩
      refine hK _ _ (Sx.behind (by kernel_rfl) hs4.out) ?_
      clear hK K
      try go_simp
      refine wpAnyX_both (T := (fun _ => True)) (i := 13) (v := z4) rfl (by kernel_rfl) (by kernel_rfl) (by kernel_rfl) (fun _ _ _ h => by first | exact h | exact h.elim) (by decide) (fun _ _ => trivial) (fun _ _ => trivial) (Sx.behind (by kernel_rfl) hs4.out) (Or.inl ⟨by rfl, fun uu hu => by go_simp⟩) ?_
      try go_simp
      refine wpAnyX_done (by kernel_rfl) ?_ _
      have BW4 := kide (HW0.out.trans (KK4.out.1.mono HHB0.out))
      have hK4 : K ≤ 4096 := by have := HOM.out.1.2.1; simp only [] at this; omega
      have HC5 := kide (l22Bits_any B z4 ((((LC ++ numB op) ++ numB vr) ++ numB na) ++ numB nb) K wn wc wa ws w0 m4 OO4.out HS4.out BW4.out HHB0.out hw1 HWN.out hK4 (by have := HOM.out.1.2.2; simp only [Int.toNat_natCast] at this; rw [← HWN.out]; exact this) (by have := HOM.out.2; simpa using this) HB4.out)
      have HB5 : Hid ((((((LC ++ numB op) ++ numB vr) ++ numB na) ++ numB nb) ++ bitsB K ws).length ≤ 99000000000000) := by show _ ≤ _; rw [List.length_append]; have := HB4.out; have := bits_le hK4 ws; omega
      have HB5b : Hid ((((((LC ++ numB op) ++ numB vr) ++ numB na) ++ numB nb) ++ bitsB K ws).length ≤ 85000000000000) := by show _ ≤ _; rw [List.length_append, List.length_append, List.length_append, List.length_append, List.length_append]; have := HLC.out; have := bits_le hK4 ws; have := numB_le i1; have := numB_le i2; have := numB_le i3; have := numB_le i4; omega
      have hkl : kn ≤ 1048576 := by rw [← HKN.out]; exact hw2.1
      clear hK4
      have y4 := YY4.out.cell 4
      have y5 := YY4.out.cell 5
      simp at y4 y5
      have HLN2 := kide hkl
      clear hkl c0_4 c1_4 c2_4 c3_4 hs4
      clear c0_3 c1_3 c2_3 c3_3 c0_2 c1_2 c2_2 c3_2 c0_1 c1_1 c2_1 c3_1 c0_0 c1_0 c2_0 c3_0 hs3 hs2 hs1 hs0 OO0 OO1 OO2 OO3 YY0 YY1 YY2 YY3 KK0 KK1 KK2 KK3 XX0 XX1 XX2 XX3 HS0 HS1 HS2 HS3
      go_wp2_with fail
      clear y4 y5
      refine Calls.mono HC5.out ?_
      rintro e m5 ⟨z5, rfl, ho5, hk5⟩
      have YY5 := kide (YY4.out.ky hk5 (by decide))
      have XX5 := kide (XX4.out.ky hk5 (by decide))
      have KK5 := kide (KK4.out.trans hk5)
      have HS5 := kide (Nat.le_trans HS4.out hk5.1.size)
      have HC6 := kide (l22Put_any B z5 (((((LC ++ numB op) ++ numB vr) ++ numB na) ++ numB nb) ++ bitsB K ws) (kn : Int) m5 ho5 HS5.out ⟨by omega, by have := HLN2.out; omega⟩ HB5.out)
      clear ho5 hk5 HC5 YY4 XX4 KK4 HS4 BW4 OO4
      have y6 := YY5.out.cell 6
      simp at y6
      go_wp2_with fail
      clear y6
      refine Calls.mono HC6.out ?_
      rintro e m6 ⟨z6, rfl, ho6, hk6⟩
      have YY6 := kide (YY5.out.ky hk6 (by decide))
      have XX6 := kide (XX5.out.ky hk6 (by decide))
      have KK6 := kide (KK5.out.trans hk6)
      have OO6 := kide ho6
      clear ho6 hk6 HC6 YY5 XX5 KK5 HS5
      obtain ⟨LK, hLK⟩ : ∃ x, (((((LC ++ numB op) ++ numB vr) ++ numB na) ++ numB nb) ++ bitsB K ws) ++ numB (kn : Int) = x := ⟨_, rfl⟩
      rw [hLK] at OO6
      have HLK := kide hLK
      have HBK : Hid (LK.length ≤ 86000000000000) := by show _ ≤ _; rw [← hLK, List.length_append]; have := HB5b.out; have := numB_le (n := (kn : Int)) ⟨by omega, by have := HLN2.out; omega⟩; omega
      have HKI := kide (fun u (hu : Below w0.heap.size w0 u) => hw2.later hu)
      clear hLK
      go_wp2_with fail
      go_loopw [0, 7] (fun v i wr => ∃ q : Nat, q ≤ kn ∧ i = .int .i64 (q : Int) ∧ OwB wr B v (LK ++ (ks.take q).flatMap numB) ∧ Ky B w wr ∧ Bz wr w.heap.size #[Value.slice (some ⟨b, o, none⟩) n c] 66 ∧ Bz wr g #[Value.int .i64 op, Value.int .i64 vr, Value.int .i64 na, Value.int .i64 nb, Value.int .i64 (K : Int), Value.slice wa wn wc, Value.slice ka kn kc] 108) (fun _ i _ => kn - (intOf i).toNat)
      case atStart => exact ⟨0, Nat.zero_le _, rfl, by simpa using OO6.out, KK6.out, XX6.out, YY6.out⟩
      case round =>
        obtain ⟨q, hq, rfl, ho, hky, hx, hy⟩ := hrel
        have HOQ := kide ho
        have HKQ := kide hky
        have HXQ := kide hx
        have HYQ := kide hy
        have BQ := kide (HW0.out.trans (hky.1.mono HHB0.out))
        have HSQ : Hid (B ≤ wr.heap.size) := Nat.le_trans HHB.out hky.1.size
        have y6 := hy.cell 6
        simp at y6
        clear ho hky hx hy
        by_cases hqk : q < kn
        · obtain ⟨-, hok2, hnil | ⟨b2, o2, ea2, hcell⟩⟩ := HKI.out wr BQ.out
          · have := HKN.out; rw [hnil] at this; simp at this; omega
          subst ea2
          obtain ⟨z, gz⟩ : ∃ y, ks[q]? = some y := ⟨ks[q]'(by rw [HKN.out]; exact hqk), List.getElem?_eq_getElem _⟩
          have hz2 := hok2 z (List.mem_of_getElem? gz)
          have p0 := hcell q (by rw [HKN.out]; exact hqk)
          rw [show ks.getD q 0 = z by rw [List.getD_eq_getElem?_getD, gz]; rfl] at p0
          have HSQ2 : Hid ((ks.take (q + 1)).flatMap numB = (ks.take q).flatMap numB ++ numB z) := by
            show _ = _
            rw [List.take_add_one, gz, List.flatMap_append]
            simp
          have HBQ : Hid ((LK ++ (ks.take q).flatMap numB).length ≤ 99000000000000) := by
            show _ ≤ _
            rw [List.length_append]
            have h1 := take_le numB 11 ks q (fun y hy => numB_le (hok2 y hy))
            have := HBK.out
            have := HLN2.out
            omega
          have HCQ := kide (l22Put_any B _ _ z wr HOQ.out HSQ.out hz2 HBQ.out)
          have j0 : (q : Int) < (kn : Int) := by omega
          have HQ1 := kide hqk
          clear hcell hok2 gz hz2 hq hqk
          go_wp2_with fail
          refine Calls.mono HCQ.out ?_
          rintro e w2 ⟨z7, rfl, ho7, hk7⟩
          rw [List.append_assoc, ← HSQ2.out] at ho7
          have O7 := kide ho7
          have K7 := kide (HKQ.out.trans hk7)
          have X7 := kide (HXQ.out.ky hk7 (by decide))
          have Y7 := kide (HYQ.out.ky hk7 (by decide))
          clear ho7 hk7 HCQ p0 y6
          go_wp2_with fail
          have t9 := wrap_succ (q := q) (by have := HQ1.out; have := HLN2.out; omega)
          rw [t9]
          clear t9
          go_roundw
          case rel => exact ⟨q + 1, by have := HQ1.out; omega, rfl, O7.out, K7.out, X7.out, Y7.out⟩
          case measure => have := HQ1.out; simp only [intOf, Int.toNat_natCast]; omega
        · obtain rfl : q = kn := by omega
          have O8 : Hid (OwB wr B u0 (cs ++ (l.take (k + 1)).flatMap nodeG)) := by
            have h := HOQ.out
            rw [← HKN.out, List.take_length, ← HLK.out, ← HLCE.out] at h
            show OwB _ _ _ _
            rw [HST.out]
            simpa [nodeG, nodeB, kidsB, List.append_assoc, HKN.out] using h
          have j0 : ¬ (q : Int) < (q : Int) := by omega
          clear hq hqk
          go_wp2_with fail
          have t9 := wrap_succ (q := k) (by have := HKL.out; have := HLN.out; omega)
          rw [t9]
          clear t9
          go_roundw
          case rel => exact ⟨k + 1, by have := HKL.out; omega, rfl, O8.out, HKQ.out, HXQ.out⟩
          case measure => have := HKL.out; simp only [intOf, Int.toNat_natCast]; omega
    · have hkn : k = n := by omega
      have i0 : ¬ (k : Int) < (n : Int) := by omega
      have HKN9 := kide hkn
      clear hkn hlt hk
      go_wp2_with fail
      go_ret
      refine ⟨_, rfl, ?_, HKY.out⟩
      have h := HO.out
      rw [HKN9.out, ← HNL.out, List.take_length] at h
      exact h

end Go.Proofs.YtofdkdaehhpgbaaGreatDoor
