/- Drawn clauses. -/
import Derived.Test.YtmfamdonbgmjbaaDoorZHAD
import Derived.Test.YtmfamdonbgmjbaaDoorRX
namespace Go.Proofs.YtmfamdonbgmjbaaDoor
set_option linter.unusedVariables false
set_option linter.unusedSimpArgs false
open Go.RowKit
theorem step_appR (w : World) {ops : Array Oper} {o : Oper} {a : Act} {K : Act → World → Prop} {Q : Exit → Act → World → Prop} {E : Prop} (hgd : o.guard = none) (s x : Operand)
    (ho : o.op = .call { callee := .builtin .append, args := #[s, x], argTypes := #[22, 22] })
    (B : Nat) (v : Value) (l : List Value) (y : Value) (hy : y.oneCell' = true) (hs : a.eval s = v) (hown : w.ownsRow B 25 1 v l.length l) (gx c : Nat) (hx : a.eval x = .slice (some ⟨gx, 0, none⟩) 1 c)
    (h0 : w.cell? ⟨gx, 0, none⟩ = some y) (hl : l.length ≤ 1073741824) (hB : B ≤ w.heap.size)
    (h : ∀ g cap w', w'.ownsRow B 25 1 (.slice (some ⟨g, 0, none⟩) (l.length + 1) cap) (l ++ [y]).length (l ++ [y]) → w.grownBy w' v.ownBlock → (v.ownBlock = some g ∨ g = w.heap.size) → K (a.put o.dst (.slice (some ⟨g, 0, none⟩) (l.length + 1) cap)) w') :
    if Region.wanted o (yielded ops a.tmps) = true then Oper.wp Tryd.prog o a w K Q else E := by
  obtain ⟨i0, hi, hz0, hz1, hz2⟩ := info_parts Tryd.infoRows
  refine step_append_lies w hgd s x 22 ho B 25 i0 _ 1 24 Tryd.underlying22 hi hz0 hz1 hz2 rfl (by decide) v l.length l hs hown ⟨gx, 0, none⟩ 1 c [y] hx rfl ?_ ?_ (by decide) ?_ ?_ hB _ rfl ?_
  · intro j u hj
    rw [Addr.add_lit]
    match j, hj with
    | 0, hj => simp at hj; subst hj; exact h0
    | j + 1, hj => simp at hj
  · intro u hu
    simp at hu
    subst hu
    exact hy
  · unfold maxLen; omega
  · omega
  · intro g cap w' h1 h2 h3 _
    refine h g cap w' ?_ h2 h3
    rw [List.length_append]
    exact h1
theorem Cq.form {w : World} {B : Nat} {v : Value} {vs : List Value} {xss : List (List Int)} (h : Cq w B v vs xss) : ∃ a c, v = .slice a vs.length c := by
  rcases h.row.2 with ⟨rfl, h0⟩ | ⟨g, cap, cur, rfl, -⟩
  · exact ⟨none, 0, by rw [h0]⟩
  · exact ⟨_, _, rfl⟩
/-- A block that is still to come is none of the clauses'. -/
theorem Kc.new {w0 w : World} {β : Nat} {a : Option Addr} {c : Nat} {bs : List Nat} {xb rb : Nat} {S : Int} {v : Value} {vs : List Value} {xss : List (List Int)} (h : Kc w0 w β a c bs xb rb S v vs xss) {n m : Nat} : ∀ (i : Nat) y b, vs[i]? = some y → y.ownBlock = some b → (Value.slice (some ⟨w.heap.size, 0, none⟩) n m).ownBlock ≠ some b := fun i y b hi hb e => by
  cases e
  obtain ⟨z, hz⟩ : ∃ z, xss[i]? = some z := ⟨xss[i]'(by rw [← h.ct.len]; exact (List.getElem?_eq_some_iff.1 hi).1), List.getElem?_eq_getElem _⟩
  have h9 : w.heap.size < w.heap.size := ((h.ct.own i y z hi hz).lt hb).2
  omega
theorem Kc.boxG {w0 w w2 : World} {β : Nat} {a : Option Addr} {c : Nat} {bs : List Nat} {xb rb : Nat} {S : Int} {v : Value} {vs : List Value} {xss : List (List Int)} (h : Kc w0 w β a c bs xb rb S v vs xss) (hg : w.grownBy w2 v.ownBlock) : Bz w2 xb #[.int .i64 S, v] 29 := (hg.block xb h.box.lt (fun e => by
  obtain ⟨c2, e2⟩ := rowty h.ct.row e.symm
  have := h.box.symm.trans e2
  simp at this)).trans h.box
theorem Kc.fin {w0 w : World} {β : Nat} {a : Option Addr} {c : Nat} {bs : List Nat} {xb rb : Nat} {S : Int} {v : Value} {vs : List Value} {xss : List (List Int)} (h : Kc w0 w β a c bs xb rb S v vs xss) (hr0 : Rr w0 β a c bs) (hr : w0.heap.size ≤ rb) (hS : in64 S) (hl : vs.length ≤ 30) : RetCn β a c bs w0 (.returned (.agg #[.int .i64 S, v])) ((w.setCell ⟨rb, 0, none⟩ (.int .i64 S)).setCell ⟨rb, 1, none⟩ v) := by
  have c1 := h.ct.other (g := rb) (i := 0) h.rbox (by decide) (by decide) (.int .i64 S)
  have c2 := c1.other (g := rb) (i := 1) (h.rbox.set 0 _) (by decide) (by decide) v
  obtain ⟨ca, cc, iws, rfl, h2, h3⟩ := c2.rdC (by omega) h.ok
  exact ⟨S, ca, _, cc, iws, rfl, hS, h2, hl, h3, hr0.far (hr0.far h.rr (gsc w ⟨rb, 0, none⟩ _) (fun k e => by cases e; exact hr)) (gsc _ ⟨rb, 1, none⟩ _) (fun k e => by cases e; exact hr), (h.dw.own (gsc w ⟨rb, 0, none⟩ _) (fun k e => by cases e; exact hr)).own (gsc _ ⟨rb, 1, none⟩ _) (fun k e => by cases e; exact hr)⟩
set_option maxHeartbeats 4000000 in
set_option maxRecDepth 100000 in
theorem cnf_any (β : Nat) (a : Option Addr) (c : Nat) (bs : List Nat) (w : World) (hr : Rr w β a c bs) :
    Calls Tryd.prog 45 #[.pointer (some ⟨β, 0, none⟩)] w (RetCn β a c bs w) := by
  have hβ := hr.lt
  have HR := kide hr
  have hb0 : Below w.heap.size w (w.alloc (Obj.cells #[Value.int .i64 0, Value.slice none 0 0] 29)) := (Below.refl _ _).alloc (Nat.le_refl _) _
  have X0 := kide (Bz.new w #[Value.int .i64 0, Value.slice none 0 0] 29)
  have R0 := kide (hr.later hb0)
  have D0 : Hid (Dw β w (w.alloc (Obj.cells #[Value.int .i64 0, Value.slice none 0 0] 29))) := Dw.of hb0
  clear hr hb0
  go_enter Tryd.func45, Tryd.ntmps45
  go_wp2_with fail
  generalize w.alloc (Obj.cells #[Value.int .i64 0, Value.slice none 0 0] 29) = w0 at *
  refine Calls.mono (below_any 7 (by omega) β a c bs _ R0.out) ?_
  rintro e w1 ⟨x, rfl, hx, hr1, hd1⟩
  obtain ⟨S, hS⟩ : ∃ S : Nat, 1 + (x : Int) = (S : Int) := ⟨1 + x, by omega⟩
  have hS7 : 1 ≤ S ∧ S ≤ 7 := by omega
  have X1 : Hid (Bz w1 w.heap.size #[Value.int .i64 0, Value.slice none 0 0] 29) := X0.out.farD hd1 (by omega)
  obtain ⟨xb, hxb⟩ : ∃ xb, w1.heap.size = xb := ⟨_, rfl⟩
  have hlx : w.heap.size < xb := by rw [← hxb]; exact X1.out.lt
  have D1 := kide (D0.out.trans hd1)
  have hb1 : Below w1.heap.size w1 (w1.alloc (Obj.cells #[Value.int .i64 (S : Int), Value.slice none 0 0] 29)) := (Below.refl _ _).alloc (Nat.le_refl _) _
  have XB := Bz.new w1 #[Value.int .i64 (S : Int), Value.slice none 0 0] 29
  rw [hxb] at XB
  have K0 : Hid (Kc w (w1.alloc (Obj.cells #[Value.int .i64 (S : Int), Value.slice none 0 0] 29)) β a c bs xb w.heap.size (S : Int) (.slice none 0 0) [] []) := ⟨XB, X1.out.later hb1, Cq.nil _ _, fun xs h => (by cases h), hr1.later hb1, D1.out.trans (Dw.of hb1)⟩
  clear hx hr1 hd1 hb1 X0 X1 R0 D0 D1 XB
  go_wp2_with fail
  generalize w1.alloc (Obj.cells #[Value.int .i64 (S : Int), Value.slice none 0 0] 29) = w2 at *
  refine Calls.mono (size_any 3 24 (by omega) (by omega) (by omega) (by omega) β a c bs _ K0.out.rr) ?_
  rintro e w3 ⟨y, rfl, hy1, hy2, hr3, hd3⟩
  have K3 := kide (K0.out.far hd3 hr3 hβ (by omega) (Nat.le_refl _))
  have hzx : ¬ xb = w.heap.size := by omega
  clear hr3 hd3 K0 hxb
  have HBX := kide hlx
  go_wp2_with fail
  go_loopw [4] (fun i wr => ∃ (k : Nat) (v : Value) (vs : List Value) (xss : List (List Int)), k + vs.length ≤ 24 ∧ i = .int .i64 (k : Int) ∧ Kc w wr β a c bs xb w.heap.size (S : Int) v vs xss) (fun i _ => (intOf i).toNat)
  case atStart => exact ⟨y, _, [], [], by simp; omega, rfl, K3.out⟩
  case round =>
    obtain ⟨k, v, vs, xss, hk, rfl, hkc⟩ := hrel
    obtain ⟨va, vc, rfl⟩ := hkc.ct.form
    have K4 := kide hkc
    have HK := kide hk
    obtain ⟨vn, hvn⟩ : ∃ vn, vs.length = vn := ⟨_, rfl⟩
    rw [hvn] at K4 HK
    have HVN := kide hvn
    clear hvn
    clear hkc K3 hk
    by_cases hk0 : k = 0
    · subst hk0
      have HK2 : Hid (vn ≤ 24) := by have := HK.out; show _ ≤ _; omega
      clear hy1 hy2
      go_wp2_with fail
      refine Calls.mono (below_any 30 (by omega) β a c bs _ K4.out.rr) ?_
      rintro e w5 ⟨z, rfl, hz, hr5, hd5⟩
      have K5 := kide (K4.out.far hd5 hr5 hβ (by omega) (Nat.le_refl _))
      have hz30 : z < 30 := by omega
      clear hr5 hd5 K4 hz
      by_cases hz0 : z = 0
      · subst hz0
        have HOF := kide (fun W (h : Rr W β a c bs) => offS_any (S : Int) ⟨by omega, by omega⟩ β a c bs W h)
        rw [show wrap64 (-(S : Int)) = -(S : Int) from by unfold wrap64; omega] at HOF
        have hwS : IntKind.i64.wrap (-(S : Int)) = -(S : Int) := by rw [IntKind.wrap_i64]; omega
        go_wp2_with fail
        refine wp_region_x (SA := fun uu => uu.cell? ⟨xb, 1, none⟩ = some (Value.slice va vn vc) ∧ uu.cell? ⟨xb, 0, none⟩ = some (Value.int .i64 (S : Int))) (SB := fun _ => True) (k := 13) (by kernel_rfl) ?_
        have hbd : Below w5.heap.size w5 w5.drew := (Below.refl _ _).drew
        have KQ0 := kide (K5.out.later hbd)
        clear hbd
        generalize w5.drew = q0 at *
        have c0_0 : q0.cell? ⟨xb, 1, none⟩ = some (Value.slice va vn vc) := KQ0.out.box.cell 1
        have c1_0 : q0.cell? ⟨xb, 0, none⟩ = some (Value.int .i64 (S : Int)) := KQ0.out.box.cell 0
        have hs0 : Hid ((fun uu => uu.cell? ⟨xb, 1, none⟩ = some (Value.slice va vn vc) ∧ uu.cell? ⟨xb, 0, none⟩ = some (Value.int .i64 (S : Int))) q0) := ⟨c0_0, c1_0⟩
        try go_simp
        refine wpAnyX_both (T := fun _ => True) (i := 0) (v := Value.pointer (some ⟨xb, 1, none⟩)) rfl (by kernel_rfl) (by kernel_rfl) (by kernel_rfl) (fun _ _ _ h => by first | exact h | exact h.elim) (by decide) (fun _ _ => trivial) (fun _ _ => trivial) (Sx.before (by kernel_rfl) hs0.out) (Or.inl ⟨by rfl, fun uu hu => by go_simp⟩) ?_
        try go_simp
        refine wpAnyX_take (i := 1) (v := Value.slice va vn vc) rfl (by kernel_rfl) (by kernel_rfl) (by kernel_rfl) (fun _ _ _ h => by first | exact h | exact h.elim) (by decide) (by kernel_rfl) (by kernel_rfl) hs0.out (Or.inl ⟨by rfl, fun uu hu => by obtain ⟨e0, e1⟩ := hu; go_simp⟩) ?_
        try go_simp
        refine wpAnyX_both (T := fun _ => True) (i := 2) (v := Value.pointer (some ⟨β, 0, none⟩)) rfl (by kernel_rfl) (by kernel_rfl) (by kernel_rfl) (fun _ _ _ h => by first | exact h | exact h.elim) (by decide) (fun _ _ => trivial) (fun _ _ => trivial) (Sx.before (by kernel_rfl) hs0.out) (Or.inl ⟨by rfl, fun uu hu => by go_simp⟩) ?_
        try go_simp
        refine wpAnyX_both (T := fun _ => True) (i := 3) (v := Value.pointer (some ⟨xb, 0, none⟩)) rfl (by kernel_rfl) (by kernel_rfl) (by kernel_rfl) (fun _ _ _ h => by first | exact h | exact h.elim) (by decide) (fun _ _ => trivial) (fun _ _ => trivial) (Sx.before (by kernel_rfl) hs0.out) (Or.inl ⟨by rfl, fun uu hu => by go_simp⟩) ?_
        try go_simp
        refine wpAnyX_take (i := 4) (v := Value.int .i64 (S : Int)) rfl (by kernel_rfl) (by kernel_rfl) (by kernel_rfl) (fun _ _ _ h => by first | exact h | exact h.elim) (by decide) (by kernel_rfl) (by kernel_rfl) hs0.out (Or.inl ⟨by rfl, fun uu hu => by obtain ⟨e0, e1⟩ := hu; go_simp⟩) ?_
        try go_simp
        refine wpAnyX_both (T := fun _ => True) (i := 5) (v := Value.int .i64 (-(S : Int))) rfl (by kernel_rfl) (by kernel_rfl) (by kernel_rfl) (fun _ _ _ h => by first | exact h | exact h.elim) (by decide) (fun _ _ => trivial) (fun _ _ => trivial) (Sx.before (by kernel_rfl) hs0.out) (Or.inl ⟨by rfl, fun uu hu => by go_simp⟩) ?_
        try go_simp
        refine wpAnyX_both (T := fun _ => True) (i := 6) (v := Value.pointer (some ⟨xb, 0, none⟩)) rfl (by kernel_rfl) (by kernel_rfl) (by kernel_rfl) (fun _ _ _ h => by first | exact h | exact h.elim) (by decide) (fun _ _ => trivial) (fun _ _ => trivial) (Sx.before (by kernel_rfl) hs0.out) (Or.inl ⟨by rfl, fun uu hu => by go_simp⟩) ?_
        try go_simp
        refine wpAnyX_take (i := 7) (v := Value.int .i64 (S : Int)) rfl (by kernel_rfl) (by kernel_rfl) (by kernel_rfl) (fun _ _ _ h => by first | exact h | exact h.elim) (by decide) (by kernel_rfl) (by kernel_rfl) hs0.out (Or.inl ⟨by rfl, fun uu hu => by obtain ⟨e0, e1⟩ := hu; go_simp⟩) ?_
        try go_simp
        refine wpAnyX_ready (rs := [8]) (by kernel_rfl) (by simp) (AllX.cons rfl (fun K hK => ?_) AllX.nil)
        go_simp
        refine Calls.mono (HOF.out q0 KQ0.out.rr) ?_
        rintro e q1 ⟨zz, rfl, hzz, hrz, hdz⟩
        have KQ1 := kide (KQ0.out.far hdz hrz hβ (by omega) (Nat.le_refl _))
        have HZZ := kide hzz
        clear hrz hdz hzz
        have c0_1 : q1.cell? ⟨xb, 1, none⟩ = some (Value.slice va vn vc) := KQ1.out.box.cell 1
        have c1_1 : q1.cell? ⟨xb, 0, none⟩ = some (Value.int .i64 (S : Int)) := KQ1.out.box.cell 0
        have hs1 : Hid ((fun uu => uu.cell? ⟨xb, 1, none⟩ = some (Value.slice va vn vc) ∧ uu.cell? ⟨xb, 0, none⟩ = some (Value.int .i64 (S : Int))) q1) := ⟨c0_1, c1_1⟩
        refine hK _ _ (Sx.before (by kernel_rfl) hs1.out) ?_
        clear hK K
        try go_simp
        refine wpAnyX_ready (rs := [9]) (by kernel_rfl) (by simp) (AllX.cons rfl (fun K hK => ?_) AllX.nil)
        go_simp
        have hbx : Below q1.heap.size q1 (q1.alloc (Obj.cells #[Value.int .i64 zz] 2)) := (Below.refl _ _).alloc (Nat.le_refl _) _
        have XN2 := kide (Bz.new q1 #[Value.int .i64 zz] 2)
        have DJ2 := kide (KQ1.out.new (n := 1) (m := 1))
        have OU2 : Hid (OI (q1.alloc (Obj.cells #[Value.int .i64 zz] 2)) w.heap.size (.slice (some ⟨q1.heap.size, 0, none⟩) 1 1) [zz]) := World.ownsRow_lit q1 (i64s [zz]) 1 KQ1.out.dw.size (by decide) (by simp [i64s])
        have KQ2 := kide (KQ1.out.later hbx)
        obtain ⟨gz, hgz⟩ : ∃ x, q1.heap.size = x := ⟨_, rfl⟩
        rw [hgz] at XN2 DJ2 OU2
        simp only [hgz]
        clear hbx hgz
        generalize q1.alloc (Obj.cells #[Value.int .i64 zz] 2) = q2 at *
        have c0_2 : q2.cell? ⟨xb, 1, none⟩ = some (Value.slice va vn vc) := KQ2.out.box.cell 1
        have c1_2 : q2.cell? ⟨xb, 0, none⟩ = some (Value.int .i64 (S : Int)) := KQ2.out.box.cell 0
        have hs2 : Hid ((fun uu => uu.cell? ⟨xb, 1, none⟩ = some (Value.slice va vn vc) ∧ uu.cell? ⟨xb, 0, none⟩ = some (Value.int .i64 (S : Int))) q2) := ⟨c0_2, c1_2⟩
        refine hK _ _ (Sx.before (by kernel_rfl) hs2.out) ?_
        clear hK K
        try go_simp
        refine wpAnyX_ready (rs := [10]) (by kernel_rfl) (by simp) (AllX.cons rfl (fun K hK => ?_) AllX.nil)
        go_simp
        have hbx : Below q2.heap.size q2 (q2.alloc (Obj.cells #[Value.slice (some ⟨gz, 0, none⟩) 1 1] 25)) := (Below.refl _ _).alloc (Nat.le_refl _) _
        have XR3 := kide (Bz.new q2 #[Value.slice (some ⟨gz, 0, none⟩) 1 1] 25)
        have DJ3 := DJ2
        have OU3 := kide (OU2.out.later hbx)
        have KQ3 := kide (KQ2.out.later hbx)
        obtain ⟨gr, hgr⟩ : ∃ x, q2.heap.size = x := ⟨_, rfl⟩
        rw [hgr] at XR3
        simp only [hgr]
        clear hbx hgr
        generalize q2.alloc (Obj.cells #[Value.slice (some ⟨gz, 0, none⟩) 1 1] 25) = q3 at *
        have c0_3 : q3.cell? ⟨xb, 1, none⟩ = some (Value.slice va vn vc) := KQ3.out.box.cell 1
        have c1_3 : q3.cell? ⟨xb, 0, none⟩ = some (Value.int .i64 (S : Int)) := KQ3.out.box.cell 0
        have hs3 : Hid ((fun uu => uu.cell? ⟨xb, 1, none⟩ = some (Value.slice va vn vc) ∧ uu.cell? ⟨xb, 0, none⟩ = some (Value.int .i64 (S : Int))) q3) := ⟨c0_3, c1_3⟩
        refine hK _ _ (Sx.before (by kernel_rfl) hs3.out) ?_
        clear hK K
        try go_simp
        refine wpAnyX_ready (rs := [11]) (by kernel_rfl) (by simp) (AllX.cons rfl (fun K hK => ?_) AllX.nil)
        have hvl : vs.length = vn := HVN.out
        refine step_appR _ rfl _ _ rfl w.heap.size (.slice va vn vc) vs (Value.slice (some ⟨gz, 0, none⟩) 1 1) rfl (by first | rfl | simp [Act.eval]) KQ3.out.ct.row gr 1 (by first | rfl | simp [Act.eval]) (XR3.out.cell 0) (by have := HVN.out; have := HK2.out; omega) KQ3.out.dw.size ?_
        intro g7 c7 q4 hrow7 hg7 _
        have HROW := kide hrow7
        have HG := kide hg7
        clear hrow7 hg7
        rw [hvl]
        clear hvl
        have XB4 : Hid (Bz q4 xb #[Value.int .i64 (S : Int), Value.slice va vn vc] 29) := KQ3.out.boxG HG.out
        have c0_4 : q4.cell? ⟨xb, 1, none⟩ = some (Value.slice va vn vc) := XB4.out.cell 1
        have c1_4 : q4.cell? ⟨xb, 0, none⟩ = some (Value.int .i64 (S : Int)) := XB4.out.cell 0
        have hs4 : Hid ((fun uu => uu.cell? ⟨xb, 1, none⟩ = some (Value.slice va vn vc) ∧ uu.cell? ⟨xb, 0, none⟩ = some (Value.int .i64 (S : Int))) q4) := ⟨c0_4, c1_4⟩
        refine hK _ _ (Sx.before (by kernel_rfl) hs4.out) ?_
        clear hK K
        try go_simp
        refine wpAnyX_both (T := fun _ => True) (i := 12) (v := Value.pointer (some ⟨xb, 1, none⟩)) rfl (by kernel_rfl) (by kernel_rfl) (by kernel_rfl) (fun _ _ _ h => by first | exact h | exact h.elim) (by decide) (fun _ _ => trivial) (fun _ _ => trivial) (Sx.before (by kernel_rfl) hs4.out) (Or.inl ⟨by rfl, fun uu hu => by go_simp⟩) ?_
        try go_simp
        refine wpAnyX_ready (rs := [13]) (by kernel_rfl) (by simp) (AllX.cons rfl (fun K hK => ?_) AllX.nil)
        have ce0 : q4.cell? ⟨xb, 1, none⟩ = some (Value.slice va vn vc) := XB4.out.cell 1
        have cf0 := XB4.out.froz 1
        go_simp
        have KQ5 : Hid (Kc w (q4.setCell ⟨xb, 1, none⟩ (Value.slice (some ⟨g7, 0, none⟩) (vn + 1) c7)) β a c bs xb w.heap.size (S : Int) (Value.slice (some ⟨g7, 0, none⟩) (vn + 1) c7) (vs ++ [Value.slice (some ⟨gz, 0, none⟩) 1 1]) (xss ++ [[zz]])) := KQ3.out.push HR.out (by have := HBX.out; omega) hzx OU3.out ⟨by simp, fun x hx => by rw [List.mem_singleton.1 hx]; exact HZZ.out⟩ DJ3.out (by have := HROW.out; rw [HVN.out] at this; exact this) HG.out
        clear ce0 cf0
        generalize q4.setCell ⟨xb, 1, none⟩ (Value.slice (some ⟨g7, 0, none⟩) (vn + 1) c7) = q5 at *
        refine hK _ _ (Sx.behind (by kernel_rfl) trivial) ?_
        clear hK K
        try go_simp
        refine wpAnyX_done (by kernel_rfl) ?_ _
        have d0 : q5.cell? ⟨xb, 0, none⟩ = some (.int .i64 (S : Int)) := KQ5.out.box.cell 0
        have d1 : q5.cell? ⟨xb, 1, none⟩ = some (.slice (some ⟨g7, 0, none⟩) (vn + 1) c7) := KQ5.out.box.cell 1
        have r0 : q5.cell? ⟨w.heap.size, 0, none⟩ = some (.int .i64 0) := KQ5.out.rbox.cell 0
        have r1 : q5.cell? ⟨w.heap.size, 1, none⟩ = some (.slice none 0 0) := KQ5.out.rbox.cell 1
        have q0 := KQ5.out.rbox.froz 0
        have q1 := KQ5.out.rbox.froz 1
        have FN := kide (KQ5.out.fin HR.out (Nat.le_refl _) ⟨by omega, by omega⟩ (by have := HK2.out; have := HVN.out; (try simp only [List.length_append, List.length_singleton]); omega))
        go_wp2_with fail
        exact bodyPost_ret (v := .agg #[.int .i64 (S : Int), .slice (some ⟨g7, 0, none⟩) (vn + 1) c7]) (by simp [results, Tryd.results45, go_sem, d1, r0, r1]) rfl FN.out
      by_cases hz1 : z = 1
      · subst hz1
        go_wp2_with fail
        refine Calls.mono (off0_any 400 ⟨by omega, by omega⟩ β a c bs _ K5.out.rr) ?_
        rintro e w6 ⟨S', rfl, hS', hr6, hd6⟩
        have K6 := kide (K5.out.far hd6 hr6 hβ (by omega) (Nat.le_refl _))
        have K7 := kide (K6.out.setS (S' := S') HR.out (by have := HBX.out; omega) hzx)
        have HS' := kide hS'
        obtain ⟨hs1, hs2⟩ := hS'
        have d0 : w6.cell? ⟨xb, 0, none⟩ = some (.int .i64 (S : Int)) := K6.out.box.cell 0
        have d1 : w6.cell? ⟨xb, 1, none⟩ = some (.slice va vn vc) := K6.out.box.cell 1
        have f0 := K6.out.box.froz 0
        have r0 : w6.cell? ⟨w.heap.size, 0, none⟩ = some (.int .i64 0) := K6.out.rbox.cell 0
        have r1 : w6.cell? ⟨w.heap.size, 1, none⟩ = some (.slice none 0 0) := K6.out.rbox.cell 1
        have q0 := K6.out.rbox.froz 0
        have q1 := K6.out.rbox.froz 1
        have FN := kide (K7.out.fin HR.out (Nat.le_refl _) HS'.out (by have := HK2.out; have := HVN.out; omega))
        clear hr6 hd6
        go_wp2_with fail
        exact bodyPost_ret (v := .agg #[.int .i64 S', .slice va vn vc]) (by simp [results, Tryd.results45, go_sem, d1, r0, r1]) rfl FN.out
      by_cases hz2 : z = 2
      · subst hz2
        have d1 : w5.cell? ⟨xb, 1, none⟩ = some (.slice va vn vc) := K5.out.box.cell 1
        have hb6 : Below w5.heap.size w5 (w5.alloc (Obj.cells #[Value.int .i64 1, Value.int .i64 (-1)] 2)) := (Below.refl _ _).alloc (Nat.le_refl _) _
        have OU6 : Hid (OI (w5.alloc (Obj.cells #[Value.int .i64 1, Value.int .i64 (-1)] 2)) w.heap.size (.slice (some ⟨w5.heap.size, 0, none⟩) 2 2) [1, -1]) := World.ownsRow_lit w5 (i64s [1, -1]) 2 K5.out.dw.size (by decide) (by simp [i64s])
        have K6 := kide (K5.out.later hb6)
        have DJ6 := kide (K5.out.new (n := 2) (m := 2))
        have HIN : Hid (∀ x ∈ ([1, -1] : List Int), in64 x) := fun x hx => by
          rcases List.mem_cons.1 hx with rfl | hx
          · unfold in64; omega
          · rw [List.mem_singleton.1 hx]; unfold in64; omega
        have HLL : Hid (([1, -1] : List Int).length ≤ 3) := by show _ ≤ _; simp
        clear hb6
        have hb7 : Below ((w5.alloc (Obj.cells #[Value.int .i64 1, Value.int .i64 (-1)] 2))).heap.size ((w5.alloc (Obj.cells #[Value.int .i64 1, Value.int .i64 (-1)] 2))) (((w5.alloc (Obj.cells #[Value.int .i64 1, Value.int .i64 (-1)] 2))).alloc (Obj.cells #[Value.slice (some ⟨w5.heap.size, 0, none⟩) 2 2] 25)) := (Below.refl _ _).alloc (Nat.le_refl _) _
        have KB7 := kide (K6.out.later hb7)
        have OU7 := kide (OU6.out.later hb7)
        have SB7 : Hid (w.heap.size ≤ (((w5.alloc (Obj.cells #[Value.int .i64 1, Value.int .i64 (-1)] 2))).alloc (Obj.cells #[Value.slice (some ⟨w5.heap.size, 0, none⟩) 2 2] 25)).heap.size) := KB7.out.dw.size
        have XR7 : Hid (Bz (((w5.alloc (Obj.cells #[Value.int .i64 1, Value.int .i64 (-1)] 2))).alloc (Obj.cells #[Value.slice (some ⟨w5.heap.size, 0, none⟩) 2 2] 25)) ((w5.heap.size + 1)) #[Value.slice (some ⟨w5.heap.size, 0, none⟩) 2 2] 25) := by have h9 := Bz.new ((w5.alloc (Obj.cells #[Value.int .i64 1, Value.int .i64 (-1)] 2))) #[Value.slice (some ⟨w5.heap.size, 0, none⟩) 2 2] 25; (try simp only [World.size_alloc] at h9); exact h9
        clear hb7
        have hvl : vs.length = vn := HVN.out
        have hv24 := HK2.out
        go_wp2_with (refine wpList_appR rfl _ _ rfl w.heap.size (.slice va vn vc) vs (Value.slice (some ⟨w5.heap.size, 0, none⟩) 2 2) rfl rfl KB7.out.ct.row ((w5.heap.size + 1)) 1 (by first | rfl | simp) (XR7.out.cell 0) (by omega) SB7.out ?_)
        intro g7 c7 u7 hrow7 hg7
        (try rw [hvl])
        clear hvl
        have XB7 := kide (KB7.out.boxG hg7)
        have e1 : u7.cell? ⟨xb, 1, none⟩ = some (.slice va vn vc) := XB7.out.cell 1
        have e2 := XB7.out.froz 1
        have K7 : Hid (Kc w (u7.setCell ⟨xb, 1, none⟩ (.slice (some ⟨g7, 0, none⟩) (vn + 1) c7)) β a c bs xb w.heap.size (S : Int) (.slice (some ⟨g7, 0, none⟩) (vn + 1) c7) (vs ++ [Value.slice (some ⟨w5.heap.size, 0, none⟩) 2 2]) (xss ++ [_])) := KB7.out.push HR.out (by have := HBX.out; omega) hzx OU7.out ⟨HLL.out, HIN.out⟩ DJ6.out (by rw [List.length_append, HVN.out, List.length_singleton]; exact hrow7) hg7
        clear hrow7 hg7 KB7 OU7 SB7 XR7
        obtain ⟨u8, hu8⟩ : ∃ u8, u7.setCell ⟨xb, 1, none⟩ (.slice (some ⟨g7, 0, none⟩) (vn + 1) c7) = u8 := ⟨_, rfl⟩
        rw [hu8] at K7
        have d0 : u8.cell? ⟨xb, 0, none⟩ = some (.int .i64 (S : Int)) := K7.out.box.cell 0
        have d1 : u8.cell? ⟨xb, 1, none⟩ = some (.slice (some ⟨g7, 0, none⟩) (vn + 1) c7) := K7.out.box.cell 1
        have r0 : u8.cell? ⟨w.heap.size, 0, none⟩ = some (.int .i64 0) := K7.out.rbox.cell 0
        have r1 : u8.cell? ⟨w.heap.size, 1, none⟩ = some (.slice none 0 0) := K7.out.rbox.cell 1
        have q0 := K7.out.rbox.froz 0
        have q1 := K7.out.rbox.froz 1
        have FN := kide (K7.out.fin HR.out (Nat.le_refl _) ⟨by omega, by omega⟩ (by have := HK2.out; have := HVN.out; (try simp only [List.length_append, List.length_singleton]); omega))
        go_wp2_with fail
        exact bodyPost_ret (v := .agg #[.int .i64 (S : Int), .slice (some ⟨g7, 0, none⟩) (vn + 1) c7]) (by simp [results, Tryd.results45, go_sem, d1, r0, r1]) rfl FN.out
      · have n0 : ((z : Int) == 0) = false := beq_eq_false_iff_ne.2 (by omega)
        have n1 : ((z : Int) == 1) = false := beq_eq_false_iff_ne.2 (by omega)
        have n2 : ((z : Int) == 2) = false := beq_eq_false_iff_ne.2 (by omega)
        clear hz0 hz1 hz2 hz30
        have d0 : w5.cell? ⟨xb, 0, none⟩ = some (.int .i64 (S : Int)) := K5.out.box.cell 0
        have d1 : w5.cell? ⟨xb, 1, none⟩ = some (.slice va vn vc) := K5.out.box.cell 1
        have r0 : w5.cell? ⟨w.heap.size, 0, none⟩ = some (.int .i64 0) := K5.out.rbox.cell 0
        have r1 : w5.cell? ⟨w.heap.size, 1, none⟩ = some (.slice none 0 0) := K5.out.rbox.cell 1
        have q0 := K5.out.rbox.froz 0
        have q1 := K5.out.rbox.froz 1
        have FN := kide (K5.out.fin HR.out (Nat.le_refl _) ⟨by omega, by omega⟩ (by have := HK2.out; have := HVN.out; (try simp only [List.length_append, List.length_singleton]); omega))
        go_wp2_with fail
        exact bodyPost_ret (v := .agg #[.int .i64 (S : Int), .slice va vn vc]) (by simp [results, Tryd.results45, go_sem, d1, r0, r1]) rfl FN.out
    · have k1 : (k : Int) > 0 := by omega
      have HK1 : Hid (1 ≤ k) := by show 1 ≤ k; omega
      have hkw : IntKind.i64.wrap ((k : Int) - 1) = ((k - 1 : Nat) : Int) := by rw [IntKind.wrap_i64]; have := HK.out; omega
      have B4 : Hid (w.heap.size ≤ wr.heap.size) := K4.out.dw.size
      have hbe : Below wr.heap.size wr (wr.alloc (Obj.cells #[] 2)) := (Below.refl _ _).alloc (Nat.le_refl _) _
      have K5 := kide (K4.out.later hbe)
      have O5 := kide (OI.empty wr w.heap.size B4.out)
      have DJ5 := kide (K4.out.new (n := 0) (m := 0))
      clear hbe B4 K4
      go_wp2_with fail
      generalize wr.alloc (Obj.cells #[] 2) = u5 at *
      rw [show decide (0 < k) = true from decide_eq_true (by omega)]
      go_loopw [6, 5] (fun i cv wq => ∃ (j : Nat) (l : List Int), 1 ≤ j ∧ j ≤ S + 1 ∧ l.length ≤ 3 ∧ i = .int .i64 (j : Int) ∧ Kc w wq β a c bs xb w.heap.size (S : Int) (.slice va vn vc) vs xss ∧ OI wq w.heap.size cv l ∧ (∀ x ∈ l, in64 x) ∧ (∀ (i : Nat) y b, vs[i]? = some y → y.ownBlock = some b → cv.ownBlock ≠ some b)) (fun i _ _ => S + 1 - (intOf i).toNat)
      case atStart => exact ⟨1, [], by omega, by omega, by simp, rfl, K5.out, O5.out, by simp, DJ5.out⟩
      case round =>
        obtain ⟨j, l, hj1, hj2, hl3, rfl, hkc, hoi, hin, hdj⟩ := hrel
        obtain ⟨la, lc, rfl⟩ := hoi.form
        have K6 := kide hkc
        have O6 := kide hoi
        have IN6 := kide hin
        have DJ6 := kide hdj
        obtain ⟨ln, hln⟩ : ∃ ln, l.length = ln := ⟨_, rfl⟩
        rw [hln] at O6 DJ6 hl3 ⊢
        have HLN := kide hln
        clear hkc hoi hin hdj hln K5 O5 DJ5
        have d0 : wr.cell? ⟨xb, 0, none⟩ = some (.int .i64 (S : Int)) := K6.out.box.cell 0
        by_cases hjS : j ≤ S
        · have j1 : (j : Int) ≤ (S : Int) := by omega
          go_wp2_with fail
          refine Calls.mono (once_any 3 (by omega) (by omega) β a c bs _ K6.out.rr) ?_
          rintro e w7 ⟨xx, rfl, hr7, hd7⟩
          have K7 := kide (K6.out.far hd7 hr7 hβ (by have := HBX.out; omega) (Nat.le_refl _))
          have O7 := kide (O6.out.far hd7 hβ)
          clear hr7 hd7 K6 O6 d0
          cases xx with
          | false =>
            go_wp2_with fail
            go_roundw
            case rel => exact ⟨j + 1, l, by omega, by omega, by rw [HLN.out]; exact hl3, by go_num, K7.out, O7.out, IN6.out, DJ6.out⟩
            case measure => simp only [intOf]; omega
          | true =>
            by_cases hl2 : ln < 3
            · have l1 : (ln : Int) < 3 := by omega
              go_wp2_with fail
              refine Calls.mono (below_any 2 (by omega) β a c bs _ K7.out.rr) ?_
              rintro e w8 ⟨t, rfl, ht, hr8, hd8⟩
              have K8 := kide (K7.out.far hd8 hr8 hβ (by have := HBX.out; omega) (Nat.le_refl _))
              have O8 := kide (O7.out.far hd8 hβ)
              have ht2 : t < 2 := by omega
              clear hr8 hd8 K7 O7 ht
              obtain ⟨yv, hyv, hyi⟩ : ∃ yv : Int, (j : Int) * (1 - 2 * (t : Int)) = yv ∧ in64 yv := by
                refine ⟨_, rfl, ?_⟩
                obtain rfl | rfl : t = 0 ∨ t = 1 := by omega
                · simp; unfold in64; omega
                · simp; unfold in64; omega
              have hw1 : IntKind.i64.wrap (2 * (t : Int)) = 2 * (t : Int) := by rw [IntKind.wrap_i64]; omega
              have hw2 : IntKind.i64.wrap (1 - 2 * (t : Int)) = 1 - 2 * (t : Int) := by rw [IntKind.wrap_i64]; omega
              have hw3 : IntKind.i64.wrap yv = yv := by rw [IntKind.wrap_i64]; unfold in64 at hyi; omega
              have hb9 : Below w8.heap.size w8 (w8.alloc (Obj.cells #[Value.int .i64 yv] 2)) := (Below.refl _ _).alloc (Nat.le_refl _) _
              have K9 := kide (K8.out.later hb9)
              have O9 := kide (O8.out.later hb9)
              have HYI := kide hyi
              have S8 : Hid (w.heap.size ≤ (w8.alloc (Obj.cells #[Value.int .i64 yv] 2)).heap.size) := K9.out.dw.size
              clear hb9 hyi
              go_wp2_with (refine wpList_appI rfl _ _ rfl w.heap.size (.slice la ln lc) l yv rfl O9.out w8.heap.size 1 rfl (by simp) (by have := HLN.out; omega) S8.out ?_)
              intro g9 c9 w9 ho9 hg9 hat9
              rw [HLN.out] at ho9
              have K10 := kide (K9.out.grow HR.out O9.out DJ6.out hg9)
              have O10 := kide ho9
              have DJ10 : Hid (∀ (i : Nat) y b, vs[i]? = some y → y.ownBlock = some b → (Value.slice (some ⟨g9, 0, none⟩) (ln + 1) c9).ownBlock ≠ some b) := fun i y b hi hb e => by
                rcases hat9 with h9 | h9
                · exact DJ6.out i y b hi hb (h9.trans e)
                · cases e
                  simp only [] at hb
                  rw [h9] at hb
                  exact K9.out.new (n := 0) (m := 0) i y _ hi hb (by simp [Value.ownBlock])
              clear ho9 hg9 hat9 O9 K9 K8 O8
              go_wp2_with fail
              go_roundw
              case rel => exact ⟨j + 1, l ++ [yv], by omega, by omega, by rw [List.length_append, HLN.out, List.length_singleton]; omega, by go_num, K10.out, by rw [HLN.out]; exact O10.out, fun x hx => by
                rcases List.mem_append.1 hx with hx | hx
                · exact IN6.out x hx
                · rw [List.mem_singleton.1 hx]; exact HYI.out, by rw [HLN.out]; exact DJ10.out⟩
              case measure => simp only [intOf]; omega
            · have l1 : ¬ (ln : Int) < 3 := by omega
              go_wp2_with fail
              go_roundw
              case rel => exact ⟨j + 1, l, by omega, by omega, by rw [HLN.out]; exact hl3, by go_num, K7.out, O7.out, IN6.out, DJ6.out⟩
              case measure => simp only [intOf]; omega
        · have j1 : ¬ (j : Int) ≤ (S : Int) := by omega
          have hS9 : w.heap.size < xb := HBX.out
          by_cases hl0 : ln = 0
          · subst hl0
            have l1 : ¬ ((0 : Nat) : Int) > 0 := by simp
            go_wp2_with fail
            refine Calls.mono (once_any 30 (by omega) (by omega) β a c bs _ K6.out.rr) ?_
            rintro e w7 ⟨xx, rfl, hr7, hd7⟩
            have K8 := kide (K6.out.far hd7 hr7 hβ (by omega) (Nat.le_refl _))
            have OU8 := kide (O6.out.far hd7 hβ)
            clear hr7 hd7 K6 O6 d0
            cases xx with
            | false =>
              go_wp2_with fail
              go_roundw
              case rel => exact ⟨k - 1, .slice va vn vc, vs, xss, by have := HK.out; have := HVN.out; have := HK1.out; omega, by have := HK1.out; first | rfl | go_num | (congr 1; omega), K8.out⟩
              case measure => have := HK1.out; simp only [intOf]; omega
            | true =>
              have DJ8 := DJ6
              have HIN := IN6
              have HLL : Hid (l.length ≤ 3) := by show _ ≤ _; rw [HLN.out]; omega
              have HK2 : Hid (vn ≤ 24) := by have := HK.out; show _ ≤ _; omega
              have d1 : w7.cell? ⟨xb, 1, none⟩ = some (.slice va vn vc) := K8.out.box.cell 1
              have hb7 : Below (w7).heap.size (w7) ((w7).alloc (Obj.cells #[Value.slice (la) 0 lc] 25)) := (Below.refl _ _).alloc (Nat.le_refl _) _
              have KB7 := kide (K8.out.later hb7)
              have OU7 := kide (OU8.out.later hb7)
              have SB7 : Hid (w.heap.size ≤ ((w7).alloc (Obj.cells #[Value.slice (la) 0 lc] 25)).heap.size) := KB7.out.dw.size
              have XR7 : Hid (Bz ((w7).alloc (Obj.cells #[Value.slice (la) 0 lc] 25)) (w7.heap.size) #[Value.slice (la) 0 lc] 25) := by have h9 := Bz.new (w7) #[Value.slice (la) 0 lc] 25; (try simp only [World.size_alloc] at h9); exact h9
              clear hb7
              have hvl : vs.length = vn := HVN.out
              have hv24 := HK2.out
              go_wp2_with (refine wpList_appR rfl _ _ rfl w.heap.size (.slice va vn vc) vs (Value.slice (la) 0 lc) rfl rfl KB7.out.ct.row (w7.heap.size) 1 (by first | rfl | simp) (XR7.out.cell 0) (by omega) SB7.out ?_)
              intro g7 c7 u7 hrow7 hg7
              (try rw [hvl])
              clear hvl
              have XB7 := kide (KB7.out.boxG hg7)
              have e1 : u7.cell? ⟨xb, 1, none⟩ = some (.slice va vn vc) := XB7.out.cell 1
              have e2 := XB7.out.froz 1
              have K7 : Hid (Kc w (u7.setCell ⟨xb, 1, none⟩ (.slice (some ⟨g7, 0, none⟩) (vn + 1) c7)) β a c bs xb w.heap.size (S : Int) (.slice (some ⟨g7, 0, none⟩) (vn + 1) c7) (vs ++ [Value.slice (la) 0 lc]) (xss ++ [_])) := KB7.out.push HR.out (by have := HBX.out; omega) hzx OU7.out ⟨HLL.out, HIN.out⟩ DJ8.out (by rw [List.length_append, HVN.out, List.length_singleton]; exact hrow7) hg7
              clear hrow7 hg7 KB7 OU7 SB7 XR7
              obtain ⟨u8, hu8⟩ : ∃ u8, u7.setCell ⟨xb, 1, none⟩ (.slice (some ⟨g7, 0, none⟩) (vn + 1) c7) = u8 := ⟨_, rfl⟩
              rw [hu8] at K7
              go_wp2_with fail
              go_roundw
              case rel => exact ⟨k - 1, .slice (some ⟨g7, 0, none⟩) (vn + 1) c7, _, _, by have := HK.out; have := HVN.out; have := HK1.out; rw [List.length_append, List.length_singleton]; omega, by have := HK1.out; first | rfl | go_num | (congr 1; omega), K7.out⟩
              case measure => have := HK1.out; simp only [intOf]; omega
          · have l1 : (ln : Int) > 0 := by omega
            have K8 := K6
            have OU8 := O6
            clear K6 O6
            have DJ8 := DJ6
            have HIN := IN6
            have HLL : Hid (l.length ≤ 3) := by show _ ≤ _; rw [HLN.out]; omega
            have HK2 : Hid (vn ≤ 24) := by have := HK.out; show _ ≤ _; omega
            have d1 : wr.cell? ⟨xb, 1, none⟩ = some (.slice va vn vc) := K8.out.box.cell 1
            have hb7 : Below (wr).heap.size (wr) ((wr).alloc (Obj.cells #[Value.slice (la) ln lc] 25)) := (Below.refl _ _).alloc (Nat.le_refl _) _
            have KB7 := kide (K8.out.later hb7)
            have OU7 := kide (OU8.out.later hb7)
            have SB7 : Hid (w.heap.size ≤ ((wr).alloc (Obj.cells #[Value.slice (la) ln lc] 25)).heap.size) := KB7.out.dw.size
            have XR7 : Hid (Bz ((wr).alloc (Obj.cells #[Value.slice (la) ln lc] 25)) (wr.heap.size) #[Value.slice (la) ln lc] 25) := by have h9 := Bz.new (wr) #[Value.slice (la) ln lc] 25; (try simp only [World.size_alloc] at h9); exact h9
            clear hb7
            have hvl : vs.length = vn := HVN.out
            have hv24 := HK2.out
            go_wp2_with (refine wpList_appR rfl _ _ rfl w.heap.size (.slice va vn vc) vs (Value.slice (la) ln lc) rfl rfl KB7.out.ct.row (wr.heap.size) 1 (by first | rfl | simp) (XR7.out.cell 0) (by omega) SB7.out ?_)
            intro g7 c7 u7 hrow7 hg7
            (try rw [hvl])
            clear hvl
            have XB7 := kide (KB7.out.boxG hg7)
            have e1 : u7.cell? ⟨xb, 1, none⟩ = some (.slice va vn vc) := XB7.out.cell 1
            have e2 := XB7.out.froz 1
            have K7 : Hid (Kc w (u7.setCell ⟨xb, 1, none⟩ (.slice (some ⟨g7, 0, none⟩) (vn + 1) c7)) β a c bs xb w.heap.size (S : Int) (.slice (some ⟨g7, 0, none⟩) (vn + 1) c7) (vs ++ [Value.slice (la) ln lc]) (xss ++ [_])) := KB7.out.push HR.out (by have := HBX.out; omega) hzx OU7.out ⟨HLL.out, HIN.out⟩ DJ8.out (by rw [List.length_append, HVN.out, List.length_singleton]; exact hrow7) hg7
            clear hrow7 hg7 KB7 OU7 SB7 XR7
            obtain ⟨u8, hu8⟩ : ∃ u8, u7.setCell ⟨xb, 1, none⟩ (.slice (some ⟨g7, 0, none⟩) (vn + 1) c7) = u8 := ⟨_, rfl⟩
            rw [hu8] at K7
            go_wp2_with fail
            go_roundw
            case rel => exact ⟨k - 1, .slice (some ⟨g7, 0, none⟩) (vn + 1) c7, _, _, by have := HK.out; have := HVN.out; have := HK1.out; rw [List.length_append, List.length_singleton]; omega, by have := HK1.out; first | rfl | go_num | (congr 1; omega), K7.out⟩
            case measure => have := HK1.out; simp only [intOf]; omega
end Go.Proofs.YtmfamdonbgmjbaaDoor
