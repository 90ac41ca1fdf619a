/- Several texts in one. -/
import Derived.Test.YtljcfokiocbgoaaZUD
import Derived.Test.YtljcfokiocbgoaaZUD
import Derived.Handy
import Derived.Test.YtljcfokiocbgoaaZUB
import Derived.Test.YtljcfokiocbgoaaZUC

/- Nodes held against one another, on the given side. -/
namespace Go.Proofs.Ytljcfokiocbgoaa
set_option linter.unusedVariables false
set_option linter.unusedSimpArgs false
open Go.RowKit

theorem tcEq_no {x y : Tc} (h : x ≠ y) : tcEq x y = false := by
  cases e : tcEq x y with
  | false => rfl
  | true => exact absurd (tcEq_iff.1 e) h

set_option maxHeartbeats 4000000 in
set_option maxRecDepth 100000 in
theorem l3SameNode_any (x y : Tc) (wa wb ka kb : Option Addr) (wc wd kc kd : Nat) (w : World) (hx : Rd w wa x.ws) (hy : Rd w wb y.ws) (hk : RdI w ka x.ks) (hl : RdI w kb y.ks) :
    Calls Try.prog 42 #[.agg #[Value.int .i64 x.op, Value.int .i64 x.vr, Value.int .i64 x.a, Value.int .i64 x.b, Value.int .i64 x.bw, Value.slice wa x.ws.length wc, Value.slice ka x.ks.length kc], .agg #[Value.int .i64 y.op, Value.int .i64 y.vr, Value.int .i64 y.a, Value.int .i64 y.b, Value.int .i64 y.bw, Value.slice wb y.ws.length wd, Value.slice kb y.ks.length kd]] w fun e w' => e = .returned (.bool (tcEq x y)) ∧ Below w.heap.size w w' := by
  have s0 := Bb.start w (.cells #[Value.int .i64 x.op, Value.int .i64 x.vr, Value.int .i64 x.a, Value.int .i64 x.b, Value.int .i64 x.bw, Value.slice wa x.ws.length wc, Value.slice ka x.ks.length kc] 57) (.cells #[Value.int .i64 y.op, Value.int .i64 y.vr, Value.int .i64 y.a, Value.int .i64 y.b, Value.int .i64 y.bw, Value.slice wb y.ws.length wd, Value.slice kb y.ks.length kd] 57)
  have HS := kide (l3Same_any x.bw wa wc x.ws y.bw wb wd y.ws _ (hx.later s0.below) (hy.later s0.below))
  have HKX := kide (fun u (hu : Below w.heap.size w u) => hk.later hu)
  have HKY := kide (fun u (hu : Below w.heap.size w u) => hl.later hu)
  have hl1 := hk.1
  have hl2 := hl.1
  have hl3 := hx.1
  have hl4 := hy.1
  have S0 := kide s0
  have c1 := s0.one
  have c2 := s0.two
  have g0 := c1 0; have g1 := c1 1; have g2 := c1 2; have g3 := c1 3; have g4 := c1 4; have g5 := c1 5; have g6 := c1 6
  have f0 := c2 0; have f1 := c2 1; have f2 := c2 2; have f3 := c2 3; have f4 := c2 4; have f5 := c2 5; have f6 := c2 6
  simp at g0 g1 g2 g3 g4 g5 g6 f0 f1 f2 f3 f4 f5 f6
  clear hx hy hk hl s0 c1 c2
  by_cases eop : x.op = y.op
  · have nop : (x.op != y.op) = false := by simp [eop]
    by_cases evr : x.vr = y.vr
    · have nvr : (x.vr != y.vr) = false := by simp [evr]
      by_cases ea : x.a = y.a
      · have na : (x.a != y.a) = false := by simp [ea]
        by_cases eb : x.b = y.b
        · have nb : (x.b != y.b) = false := by simp [eb]
          cases hbits : (decide (x.bw = y.bw) && decide (x.ws = y.ws)) with
          | false =>
            rw [tcEq_no (fun e => by rw [e] at hbits; simp at hbits)]
            rw [hbits] at HS
            clear hbits eop evr ea eb
            go_enter Try.func42, Try.ntmps42
            go_wp2_with fail
            refine Calls.mono HS.out ?_
            rintro e w1 ⟨rfl, hb1⟩
            have s1 := S0.out.next hb1
            go_wp2_with fail
            go_ret
            exact ⟨rfl, s1.below⟩
          | true =>
            rw [hbits] at HS
            have HEB := kide hbits
            clear hbits
            by_cases elen : x.ks.length = y.ks.length
            · have nl : ((x.ks.length : Int) != (y.ks.length : Int)) = false := by simp [elen]
              have HZ : Hid (tcEq x y = decide (x.ks = y.ks)) := by
                show _ = _
                have h9 := HEB.out
                simp only [Bool.and_eq_true, decide_eq_true_eq] at h9
                simp [tcEq, eop, evr, ea, eb, h9.1, h9.2]
              generalize tcEq x y = Z at HZ ⊢
              have HLE := kide elen
              clear elen eop evr ea eb HEB
              go_enter Try.func42, Try.ntmps42
              go_wp2_with fail
              refine Calls.mono HS.out ?_
              rintro e w1 ⟨rfl, hb1⟩
              have s1 := S0.out.next hb1
              have k6 := s1.one 6
              have m6 := s1.two 6
              simp at k6 m6
              have S1 := kide s1
              clear hb1 HS S0 g0 g1 g2 g3 g4 g5 g6 f0 f1 f2 f3 f4 f5 f6 s1
              go_wp2_with fail
              clear k6 m6 nl nop nvr na nb
              go_loopw [5] (fun i wr => ∃ k : Nat, k ≤ x.ks.length ∧ i = .int .i64 k ∧ (∀ j, j < k → x.ks.getD j 0 = y.ks.getD j 0) ∧ Bb w (.cells #[Value.int .i64 x.op, Value.int .i64 x.vr, Value.int .i64 x.a, Value.int .i64 x.b, Value.int .i64 x.bw, Value.slice wa x.ws.length wc, Value.slice ka x.ks.length kc] 57) (.cells #[Value.int .i64 y.op, Value.int .i64 y.vr, Value.int .i64 y.a, Value.int .i64 y.b, Value.int .i64 y.bw, Value.slice wb y.ws.length wd, Value.slice kb y.ks.length kd] 57) wr) (fun i _ => x.ks.length - (intOf i).toNat)
              case atStart => exact ⟨0, Nat.zero_le _, rfl, fun j h => by omega, S1.out⟩
              case round =>
                clear S1
                obtain ⟨k, hk, rfl, heq, s3⟩ := hrel
                have g6 := s3.one 6
                have f6 := s3.two 6
                simp at g6 f6
                have S3 := kide s3
                have HEQ := kide heq
                by_cases hjx : k < x.ks.length
                · have hji : (k : Int) < (x.ks.length : Int) := by omega
                  have hji2 : (k : Int) < (y.ks.length : Int) := by have := HLE.out; omega
                  obtain ⟨-, -, hn | ⟨g, o, rfl, hc⟩⟩ := HKX.out wr s3.below
                  · rw [hn] at hjx; simp at hjx
                  obtain ⟨-, -, hn | ⟨g', o', rfl, hc'⟩⟩ := HKY.out wr s3.below
                  · have h9 := HLE.out; rw [hn, List.length_nil] at h9; omega
                  have hx1 := hc k hjx
                  have hy1 := hc' k (by have := HLE.out; omega)
                  obtain ⟨u, hu⟩ : ∃ u, x.ks.getD k 0 = u := ⟨_, rfl⟩
                  obtain ⟨v, hv⟩ : ∃ v, y.ks.getD k 0 = v := ⟨_, rfl⟩
                  rw [hu] at hx1
                  rw [hv] at hy1
                  have HU := kide hu
                  have HV := kide hv
                  clear hc hc' hu hv heq s3
                  by_cases h1 : u = v
                  · subst h1
                    have hne : (u != u) = false := by simp
                    go_wp2_with fail
                    go_quiet (fail)
                    go_wp2_with fail
                    go_roundw
                    case rel =>
                      refine ⟨k + 1, by omega, by go_num, fun i h2 => ?_, S3.out.next (below_drewN (Below.refl _ _) _)⟩
                      by_cases hij : i = k
                      · subst hij
                        rw [HU.out, HV.out]
                      · exact HEQ.out i (by omega)
                    case measure => first | (simp [intOf]; done) | (simp [intOf]; omega)
                  · have hne : (u != v) = true := by simp [h1]
                    have HF : Hid (Z = false) := by
                      show _ = _
                      rw [HZ.out]
                      simp only [decide_eq_false_iff_not]
                      intro he
                      apply h1
                      rw [← HU.out, ← HV.out, he]
                    clear h1
                    go_wp2_with fail
                    go_quiet (fail)
                    go_wp2_with fail
                    go_ret
                    exact ⟨ret_bool HF.out.symm, S3.out.below.trans (below_drewN (Below.refl _ _) _)⟩
                · have HT : Hid (Z = true) := by
                    show _ = _
                    rw [HZ.out]
                    simp only [decide_eq_true_eq]
                    refine List.ext_getElem HLE.out (fun j h1 h2 => ?_)
                    have := heq j (by omega)
                    simpa [List.getD, h1, h2] using this
                  clear heq s3
                  go_wp2_with fail
                  go_ret
                  exact ⟨ret_bool HT.out.symm, S3.out.below⟩
            · have nl : ((x.ks.length : Int) != (y.ks.length : Int)) = true := by simp; omega
              rw [tcEq_no (fun e => by rw [e] at elen; exact elen rfl)]
              clear elen eop evr ea eb
              go_enter Try.func42, Try.ntmps42
              go_wp2_with fail
              refine Calls.mono HS.out ?_
              rintro e w1 ⟨rfl, hb1⟩
              have s1 := S0.out.next hb1
              have k6 := s1.one 6
              have m6 := s1.two 6
              simp at k6 m6
              go_wp2_with fail
              go_ret
              exact ⟨rfl, s1.below⟩
        · have nb : (x.b != y.b) = true := by simp [eb]
          rw [tcEq_no (fun e => eb (by rw [e]))]
          clear eb eop evr ea HS
          go_enter Try.func42, Try.ntmps42
          go_wp2_with fail
          go_ret
          exact ⟨rfl, S0.out.below⟩
      · have na : (x.a != y.a) = true := by simp [ea]
        rw [tcEq_no (fun e => ea (by rw [e]))]
        clear ea eop evr HS
        go_enter Try.func42, Try.ntmps42
        go_wp2_with fail
        go_ret
        exact ⟨rfl, S0.out.below⟩
    · have nvr : (x.vr != y.vr) = true := by simp [evr]
      rw [tcEq_no (fun e => evr (by rw [e]))]
      clear evr eop HS
      go_enter Try.func42, Try.ntmps42
      go_wp2_with fail
      go_ret
      exact ⟨rfl, S0.out.below⟩
  · have nop : (x.op != y.op) = true := by simp [eop]
    rw [tcEq_no (fun e => eop (by rw [e]))]
    clear eop  HS
    go_enter Try.func42, Try.ntmps42
    go_wp2_with fail
    go_ret
    exact ⟨rfl, S0.out.below⟩

end Go.Proofs.Ytljcfokiocbgoaa

/- 'append(out, list...)' of words and of numbers, the list wherever it lies, also where there is none. -/
namespace Go.Proofs.Ytljcfokiocbgoaa
set_option linter.unusedVariables false
set_option linter.unusedSimpArgs false
open Go.RowKit

theorem rd_cellsW {w : World} {ad : Addr} {ys : List Nat} (hr : Rd w (some ad) ys) : ∀ j u, (u64s ys).toList[j]? = some u → w.cell? (ad.add j) = some u := by
  intro j u hj
  have hj' : j < ys.length := by
    have := (List.getElem?_eq_some_iff.1 hj).1
    simpa [u64s] using this
  obtain ⟨-, -, h | ⟨b, o, e, hc⟩⟩ := hr
  · rw [h] at hj'; simp at hj'
  · cases e
    rw [Addr.add_lit, hc j hj']
    simp [u64s, hj'] at hj
    rw [← hj]
    simp [List.getD, hj']
theorem rd_noneW {w : World} {ys : List Nat} (hr : Rd w none ys) : ys = [] := by
  obtain ⟨-, -, h | ⟨b, o, e, hc⟩⟩ := hr
  · exact h
  · cases e

theorem wp_appWr (w : World) {o : Oper} {a : Act} {K : Act → World → Prop} {Q : Exit → Act → World → Prop} (s x : Operand)
    (ho : o.op = .call { callee := .builtin .append, args := #[s, x], argTypes := #[47, 47] })
    (base : Nat) (v : Value) (bs ys : List Nat) (hs : a.eval s = v) (hown : OwW w base v bs) (xa : Option Addr) (c : Nat) (hx : a.eval x = .slice xa ys.length c) (hc0 : xa = none → c = 0)
    (hr : Rd w xa ys) (hl : bs.length + ys.length ≤ 4194304) (hbase : base ≤ w.heap.size)
    (h : ∀ v' w', OwW w' base v' (bs ++ ys) → w.grownBy w' v.ownBlock → K (a.put o.dst v') w') : Oper.wp Try.prog o a w K Q := by
  obtain ⟨i0, hi, hz0, hz1, hz2⟩ := info_parts Try.infoU64
  cases xa with
  | none =>
    have e := rd_noneW hr
    subst e
    have ec := hc0 rfl
    subst ec
    have hr9 := run_append_owned_none (P := Try.prog) (w := w) base 47 o.type 94 i0 1 Try.underlying47 hi v bs.length (u64s bs).toList hown
    unfold Oper.wp execOp
    simp only [ho, resolve, invoke, builtin, Sem.run_bind, Sem.run_pure, Result.andThen_ok, List.map_toArray, List.map_cons, List.map_nil, hs, hx, List.length_nil, hr9]
    exact h v w (by rw [List.append_nil]; exact hown) (World.grownBy.refl w _)
  | some ad =>
    refine wp_append_own w s x 47 ho base 94 i0 (.int .u64 0) 1 8 Try.underlying47 hi hz0 hz1 hz2 rfl (by decide) v bs.length (u64s bs).toList hs hown ad ys.length c (u64s ys).toList hx (by simp [u64s]) (rd_cellsW hr) ?_ ?_ ?_ hbase ?_
    · intro u hu
      simp [u64s] at hu
      obtain ⟨_, _, rfl⟩ := hu
      rfl
    · unfold maxLen; omega
    · omega
    · intro v' w' h1 h2 _
      refine h v' w' ?_ h2
      unfold OwW
      simpa [u64s] using h1
theorem step_appWr (w : World) {ops : Array Oper} {o : Oper} {a : Act} {K : Act → World → Prop} {Q : Exit → Act → World → Prop} {E : Prop} (hgd : o.guard = none) (s x : Operand)
    (ho : o.op = .call { callee := .builtin .append, args := #[s, x], argTypes := #[47, 47] })
    (base : Nat) (v : Value) (bs ys : List Nat) (hs : a.eval s = v) (hown : OwW w base v bs) (xa : Option Addr) (c : Nat) (hx : a.eval x = .slice xa ys.length c) (hc0 : xa = none → c = 0)
    (hr : Rd w xa ys) (hl : bs.length + ys.length ≤ 4194304) (hbase : base ≤ w.heap.size)
    (h : ∀ v' w', OwW w' base v' (bs ++ ys) → w.grownBy w' v.ownBlock → K (a.put o.dst v') w') :
    if Region.wanted o (yielded ops a.tmps) = true then Oper.wp Try.prog o a w K Q else E := by
  have hw : Region.wanted o (yielded ops a.tmps) = true := by simp [Region.wanted, hgd]
  rw [if_pos hw]
  exact wp_appWr w s x ho base v bs ys hs hown xa c hx hc0 hr hl hbase h
theorem wpList_appWr (w : World) {ops : Array Oper} {rest : List Oper} {o : Oper} {a : Act} {Q : Exit → Act → World → Prop} (hgd : o.guard = none) (s x : Operand)
    (ho : o.op = .call { callee := .builtin .append, args := #[s, x], argTypes := #[47, 47] })
    (base : Nat) (v : Value) (bs ys : List Nat) (hs : a.eval s = v) (hown : OwW w base v bs) (xa : Option Addr) (c : Nat) (hx : a.eval x = .slice xa ys.length c) (hc0 : xa = none → c = 0)
    (hr : Rd w xa ys) (hl : bs.length + ys.length ≤ 4194304) (hbase : base ≤ w.heap.size)
    (h : ∀ v' w', OwW w' base v' (bs ++ ys) → w.grownBy w' v.ownBlock → wpList Try.prog ops Q rest (a.put o.dst v') w') : wpList Try.prog ops Q (o :: rest) a w :=
  wpList_plain hgd fun _ hK => wp_appWr w s x ho base v bs ys hs hown xa c hx hc0 hr hl hbase fun v' w' h2 h3 => hK _ _ (h v' w' h2 h3)

theorem rd_cellsI {w : World} {ad : Addr} {ys : List Int} (hr : RdI w (some ad) ys) : ∀ j u, (i64s ys).toList[j]? = some u → w.cell? (ad.add j) = some u := by
  intro j u hj
  have hj' : j < ys.length := by
    have := (List.getElem?_eq_some_iff.1 hj).1
    simpa [i64s] using this
  obtain ⟨-, -, h | ⟨b, o, e, hc⟩⟩ := hr
  · rw [h] at hj'; simp at hj'
  · cases e
    rw [Addr.add_lit, hc j hj']
    simp [i64s, hj'] at hj
    rw [← hj]
    simp [List.getD, hj']
theorem rd_noneI {w : World} {ys : List Int} (hr : RdI w none ys) : ys = [] := by
  obtain ⟨-, -, h | ⟨b, o, e, hc⟩⟩ := hr
  · exact h
  · cases e

theorem wp_appIr (w : World) {o : Oper} {a : Act} {K : Act → World → Prop} {Q : Exit → Act → World → Prop} (s x : Operand)
    (ho : o.op = .call { callee := .builtin .append, args := #[s, x], argTypes := #[52, 52] })
    (base : Nat) (v : Value) (bs ys : List Int) (hs : a.eval s = v) (hown : OI w base v bs) (xa : Option Addr) (c : Nat) (hx : a.eval x = .slice xa ys.length c) (hc0 : xa = none → c = 0)
    (hr : RdI w xa ys) (hl : bs.length + ys.length ≤ 4194304) (hbase : base ≤ w.heap.size)
    (h : ∀ v' w', OI w' base v' (bs ++ ys) → w.grownBy w' v.ownBlock → K (a.put o.dst v') w') : Oper.wp Try.prog o a w K Q := by
  obtain ⟨i0, hi, hz0, hz1, hz2⟩ := info_parts Try.infoI64
  cases xa with
  | none =>
    have e := rd_noneI hr
    subst e
    have ec := hc0 rfl
    subst ec
    have hr9 := run_append_owned_none (P := Try.prog) (w := w) base 52 o.type 2 i0 1 Try.underlying52 hi v bs.length (i64s bs).toList hown
    unfold Oper.wp execOp
    simp only [ho, resolve, invoke, builtin, Sem.run_bind, Sem.run_pure, Result.andThen_ok, List.map_toArray, List.map_cons, List.map_nil, hs, hx, List.length_nil, hr9]
    exact h v w (by rw [List.append_nil]; exact hown) (World.grownBy.refl w _)
  | some ad =>
    refine wp_append_own w s x 52 ho base 2 i0 (.int .i64 0) 1 8 Try.underlying52 hi hz0 hz1 hz2 rfl (by decide) v bs.length (i64s bs).toList hs hown ad ys.length c (i64s ys).toList hx (by simp [i64s]) (rd_cellsI hr) ?_ ?_ ?_ hbase ?_
    · intro u hu
      simp [i64s] at hu
      obtain ⟨_, _, rfl⟩ := hu
      rfl
    · unfold maxLen; omega
    · omega
    · intro v' w' h1 h2 _
      refine h v' w' ?_ h2
      unfold OI
      simpa [i64s] using h1
theorem step_appIr (w : World) {ops : Array Oper} {o : Oper} {a : Act} {K : Act → World → Prop} {Q : Exit → Act → World → Prop} {E : Prop} (hgd : o.guard = none) (s x : Operand)
    (ho : o.op = .call { callee := .builtin .append, args := #[s, x], argTypes := #[52, 52] })
    (base : Nat) (v : Value) (bs ys : List Int) (hs : a.eval s = v) (hown : OI w base v bs) (xa : Option Addr) (c : Nat) (hx : a.eval x = .slice xa ys.length c) (hc0 : xa = none → c = 0)
    (hr : RdI w xa ys) (hl : bs.length + ys.length ≤ 4194304) (hbase : base ≤ w.heap.size)
    (h : ∀ v' w', OI w' base v' (bs ++ ys) → w.grownBy w' v.ownBlock → K (a.put o.dst v') w') :
    if Region.wanted o (yielded ops a.tmps) = true then Oper.wp Try.prog o a w K Q else E := by
  have hw : Region.wanted o (yielded ops a.tmps) = true := by simp [Region.wanted, hgd]
  rw [if_pos hw]
  exact wp_appIr w s x ho base v bs ys hs hown xa c hx hc0 hr hl hbase h
theorem wpList_appIr (w : World) {ops : Array Oper} {rest : List Oper} {o : Oper} {a : Act} {Q : Exit → Act → World → Prop} (hgd : o.guard = none) (s x : Operand)
    (ho : o.op = .call { callee := .builtin .append, args := #[s, x], argTypes := #[52, 52] })
    (base : Nat) (v : Value) (bs ys : List Int) (hs : a.eval s = v) (hown : OI w base v bs) (xa : Option Addr) (c : Nat) (hx : a.eval x = .slice xa ys.length c) (hc0 : xa = none → c = 0)
    (hr : RdI w xa ys) (hl : bs.length + ys.length ≤ 4194304) (hbase : base ≤ w.heap.size)
    (h : ∀ v' w', OI w' base v' (bs ++ ys) → w.grownBy w' v.ownBlock → wpList Try.prog ops Q rest (a.put o.dst v') w') : wpList Try.prog ops Q (o :: rest) a w :=
  wpList_plain hgd fun _ hK => wp_appIr w s x ho base v bs ys hs hown xa c hx hc0 hr hl hbase fun v' w' h2 h3 => hK _ _ (h v' w' h2 h3)

end Go.Proofs.Ytljcfokiocbgoaa

/- Nodes copied, on the given side. -/
namespace Go.Proofs.Ytljcfokiocbgoaa
set_option linter.unusedVariables false
set_option linter.unusedSimpArgs false
open Go.RowKit

theorem OI.set_other {w : World} {B β : Nat} {v : Value} {xs : List Int} {cs : Array Value} {t : TypeId} (h : OI w B v xs) (hb : Bz w β cs t) (ht : t ≠ 2) (i : Nat) (u : Value) : OI (w.setCell ⟨β, i, none⟩ u) B v xs :=
  h.move fun b hb' => heap_setCell_other _ _ _ _ (fun e => by
    simp only [] at e
    subst e
    rcases h.2 with ⟨rfl, -⟩ | ⟨g, cap, cur, rfl, hg, hh, -⟩
    · cases hb'
    · cases hb'
      unfold Bz at hb
      rw [hb] at hh
      cases hh
      exact ht rfl)
theorem ni_set {w : World} {lo β : Nat} {a : Option Addr} {xs : List Int} {cs : Array Value} {t : TypeId} (h : Ni w lo a xs) (hB : Bz w β cs t) (ht : t ≠ 2) (i : Nat) (v : Value) : Ni (w.setCell ⟨β, i, none⟩ v) lo a xs :=
  Ni.kept h fun k cur hc => heap_setCell_other _ _ _ _ (fun e => by
    simp only [] at e
    subst e
    unfold Bz at hB
    rw [hB] at hc
    cases hc
    exact ht rfl)
theorem bz_gr {w w' : World} {b B : Nat} {cs : Array Value} {t : TypeId} {v : Value} (h : Bz w b cs t) (hb : b < B) (hv : ∀ k, v.ownBlock = some k → B ≤ k) (hg : w.grownBy w' v.ownBlock) : Bz w' b cs t := by
  unfold Bz
  rw [hg.block b h.lt (fun e => by have := hv b e.symm; omega)]
  exact h
theorem ni_gr {w w' : World} {lo B : Nat} {a : Option Addr} {xs : List Int} {v : Value} (h : Ni w lo a xs) (hw : ∃ ys, OwW w B v ys) (hg : w.grownBy w' v.ownBlock) : Ni w' lo a xs :=
  Ni.kept h fun k cur hc => hg.block k (lt_of_block hc) (fun e => by
    obtain ⟨ys, ho⟩ := hw
    rcases ho.2 with ⟨rfl, -⟩ | ⟨g, cap, cur', rfl, -, hh, -⟩
    · cases e
    · cases e
      rw [hc] at hh
      cases hh)

/-- What the copy of a node is. -/
def RetCp (op vr aa bb bw : Int) (ws : List Nat) (ks : List Int) (nw nk : Nat) (w : World) (e : Ending) (w' : World) : Prop := ∃ a1 c1 a2 c2, e = .returned (.agg #[Value.int .i64 op, Value.int .i64 vr, Value.int .i64 aa, Value.int .i64 bb, Value.int .i64 bw, Value.slice a1 nw c1, Value.slice a2 nk c2]) ∧ Nw w' w.heap.size a1 ws ∧ Ni w' w.heap.size a2 ks ∧ Below w.heap.size w w'

/-- .. and no capacity without a place. -/
def RetCq (op vr aa bb bw : Int) (ws : List Nat) (ks : List Int) (nw nk : Nat) (w : World) (e : Ending) (w' : World) : Prop := ∃ a1 c1 a2 c2, e = .returned (.agg #[Value.int .i64 op, Value.int .i64 vr, Value.int .i64 aa, Value.int .i64 bb, Value.int .i64 bw, Value.slice a1 nw c1, Value.slice a2 nk c2]) ∧ Nw w' w.heap.size a1 ws ∧ Ni w' w.heap.size a2 ks ∧ ((a1 = none → c1 = 0) ∧ (a2 = none → c2 = 0)) ∧ Below w.heap.size w w'
theorem cap0 {w : World} {B n c m k : Nat} {a : Option Addr} {t : TypeId} {xs : List Value} (h : w.ownsRow B t k (.slice a n c) m xs) : a = none → c = 0 := fun ha => by
  subst ha
  rcases h.2 with ⟨e, -⟩ | ⟨g, cap, cur, e, -⟩
  · simp only [Value.slice.injEq] at e
    exact e.2.2
  · simp only [Value.slice.injEq] at e
    exact absurd e.1 (by simp)

set_option maxHeartbeats 4000000 in
set_option maxRecDepth 100000 in
theorem l3CopyNodeQ_any (x : Tc) (wa ka : Option Addr) (wc kc : Nat) (w : World) (hx : Rd w wa x.ws) (hk : RdI w ka x.ks) (hw0 : wa = none → wc = 0) (hk0 : ka = none → kc = 0) :
    Calls Try.prog 41 #[.agg #[Value.int .i64 x.op, Value.int .i64 x.vr, Value.int .i64 x.a, Value.int .i64 x.b, Value.int .i64 x.bw, Value.slice wa x.ws.length wc, Value.slice ka x.ks.length kc]] w (RetCq x.op x.vr x.a x.b x.bw x.ws x.ks x.ws.length x.ks.length w) := by
  obtain ⟨op, vr, aa, bb, bw, ws, ks⟩ := x
  simp only [] at hx hk ⊢
  obtain ⟨nw, hnw⟩ : ∃ n, ws.length = n := ⟨_, rfl⟩
  obtain ⟨nk, hnk⟩ : ∃ n, ks.length = n := ⟨_, rfl⟩
  simp only [hnw, hnk]
  have HNW := kide hnw
  have HNK := kide hnk
  have hlw := hx.1
  have hlk := hk.1
  rw [hnw] at hlw
  rw [hnk] at hlk
  have hb2 : Below w.heap.size w ((w.alloc (Obj.cells #[Value.int .i64 op, Value.int .i64 vr, Value.int .i64 aa, Value.int .i64 bb, Value.int .i64 bw, Value.slice wa nw wc, Value.slice ka nk kc] 57)).alloc (Obj.cells #[Value.int .i64 0, Value.int .i64 0, Value.int .i64 0, Value.int .i64 0, Value.int .i64 0, Value.slice none 0 0, Value.slice none 0 0] 57)) := ((Below.refl _ _).alloc (Nat.le_refl _) _).alloc (by simp) _
  have XP0 := kide (Bz.later (Bz.new w #[Value.int .i64 op, Value.int .i64 vr, Value.int .i64 aa, Value.int .i64 bb, Value.int .i64 bw, Value.slice wa nw wc, Value.slice ka nk kc] 57) ((Below.refl _ _).alloc (Nat.le_refl _) (Obj.cells #[Value.int .i64 0, Value.int .i64 0, Value.int .i64 0, Value.int .i64 0, Value.int .i64 0, Value.slice none 0 0, Value.slice none 0 0] 57)))
  have XR0 : Hid (Bz ((w.alloc (Obj.cells #[Value.int .i64 op, Value.int .i64 vr, Value.int .i64 aa, Value.int .i64 bb, Value.int .i64 bw, Value.slice wa nw wc, Value.slice ka nk kc] 57)).alloc (Obj.cells #[Value.int .i64 0, Value.int .i64 0, Value.int .i64 0, Value.int .i64 0, Value.int .i64 0, Value.slice none 0 0, Value.slice none 0 0] 57)) (w.heap.size + 1) #[Value.int .i64 0, Value.int .i64 0, Value.int .i64 0, Value.int .i64 0, Value.int .i64 0, Value.slice none 0 0, Value.slice none 0 0] 57) := by
    have h9 := Bz.new (w.alloc (Obj.cells #[Value.int .i64 op, Value.int .i64 vr, Value.int .i64 aa, Value.int .i64 bb, Value.int .i64 bw, Value.slice wa nw wc, Value.slice ka nk kc] 57)) #[Value.int .i64 0, Value.int .i64 0, Value.int .i64 0, Value.int .i64 0, Value.int .i64 0, Value.slice none 0 0, Value.slice none 0 0] 57
    rw [show (w.alloc (Obj.cells #[Value.int .i64 op, Value.int .i64 vr, Value.int .i64 aa, Value.int .i64 bb, Value.int .i64 bw, Value.slice wa nw wc, Value.slice ka nk kc] 57)).heap.size = w.heap.size + 1 by simp] at h9
    exact h9
  have hsz : ((w.alloc (Obj.cells #[Value.int .i64 op, Value.int .i64 vr, Value.int .i64 aa, Value.int .i64 bb, Value.int .i64 bw, Value.slice wa nw wc, Value.slice ka nk kc] 57)).alloc (Obj.cells #[Value.int .i64 0, Value.int .i64 0, Value.int .i64 0, Value.int .i64 0, Value.int .i64 0, Value.slice none 0 0, Value.slice none 0 0] 57)).heap.size = w.heap.size + 1 + 1 := by simp
  obtain ⟨W0, hW0⟩ : ∃ W0, (w.alloc (Obj.cells #[Value.int .i64 op, Value.int .i64 vr, Value.int .i64 aa, Value.int .i64 bb, Value.int .i64 bw, Value.slice wa nw wc, Value.slice ka nk kc] 57)).alloc (Obj.cells #[Value.int .i64 0, Value.int .i64 0, Value.int .i64 0, Value.int .i64 0, Value.int .i64 0, Value.slice none 0 0, Value.slice none 0 0] 57) = W0 := ⟨_, rfl⟩
  rw [hW0] at hb2 XP0 XR0 hsz
  have HW0 := kide hW0
  have hb3 : Below W0.heap.size W0 (W0.alloc (Obj.cells #[] 2)) := (Below.refl _ _).alloc (Nat.le_refl _) _
  have OE := kide (OI.empty W0 (w.heap.size + 2) (by omega))
  have XP1 := kide (XP0.out.later hb3)
  have XR1 := kide (XR0.out.later hb3)
  have B1 := kide (hb2.trans (hb3.mono hb2.size))
  have HX := kide (fun u (hu : Below w.heap.size w u) => hx.later hu)
  have HK := kide (fun u (hu : Below w.heap.size w u) => hk.later hu)
  have HSZ := kide hsz
  have HW1 : Hid (w.heap.size + 2 ≤ (W0.alloc (Obj.cells #[] 2)).heap.size) := by show _ ≤ _; simp; omega
  clear hb2 hb3 XP0 XR0 hx hk hnw hnk
  go_enter Try.func41, Try.ntmps41
  have y6 := XP1.out.cell 6
  simp at y6
  clear hW0 hsz
  go_wp2_with (at_builtin; rw [HW0.out]; refine wpList_appIr _ rfl _ _ rfl (w.heap.size + 2) (.slice (some ⟨W0.heap.size, 0, none⟩) 0 0) [] ks (by first | rfl | (simp [Act.eval, ← HW0.out])) OE.out ka kc (by rw [HNK.out]; first | rfl | simp [Act.eval]) hk0 (HK.out _ B1.out) (by rw [HNK.out]; simp; omega) HW1.out ?_)
  intro v2 w2 ho2 hg2
  try rw [List.nil_append] at ho2
  have XP2 := kide (bz_gr XP1.out (show w.heap.size < w.heap.size + 2 by omega) (fun k hk => (OE.out.lt hk).1) hg2)
  have XR2 := kide (bz_gr XR1.out (show w.heap.size + 1 < w.heap.size + 2 by omega) (fun k hk => (OE.out.lt hk).1) hg2)
  have B2 := kide (Below.grown B1.out hg2 B1.out.size (fun j hj => by have := (OE.out.lt hj).1; omega))
  have HS2 : Hid (w.heap.size + 2 ≤ w2.heap.size) := Nat.le_trans HW1.out hg2.size
  obtain ⟨a5, c5, rfl, hni⟩ := ho2.ni
  have HC5 := kide (cap0 ho2)
  rw [HNK.out]
  have NI2 := kide hni
  have e6 := XP2.out.cell 6
  have f6 := XP2.out.froz 6
  simp at e6
  clear ho2 hg2 hni OE XP1 XR1 B1 HW1 y6 HSZ HW0
  have XP3 : Hid (Bz (w2.setCell ⟨w.heap.size, 6, none⟩ (Value.slice a5 nk c5)) w.heap.size #[Value.int .i64 op, Value.int .i64 vr, Value.int .i64 aa, Value.int .i64 bb, Value.int .i64 bw, Value.slice wa nw wc, Value.slice a5 nk c5] 57) := XP2.out.set 6 _
  have XR3 : Hid (Bz (w2.setCell ⟨w.heap.size, 6, none⟩ (Value.slice a5 nk c5)) (w.heap.size + 1) #[Value.int .i64 0, Value.int .i64 0, Value.int .i64 0, Value.int .i64 0, Value.int .i64 0, Value.slice none 0 0, Value.slice none 0 0] 57) := XR2.out.other (by omega) 6 _
  have NI3 := kide (ni_set NI2.out XP2.out (by decide) 6 (Value.slice a5 nk c5))
  have B3 : Hid (Below w.heap.size w (w2.setCell ⟨w.heap.size, 6, none⟩ (Value.slice a5 nk c5))) := B2.out.setCell (Nat.le_refl _) _
  have HS3 : Hid (w.heap.size + 2 ≤ (w2.setCell ⟨w.heap.size, 6, none⟩ (Value.slice a5 nk c5)).heap.size) := by show _ ≤ _; simpa using HS2.out
  clear XP2 XR2 NI2 B2 HS2
  go_wp2_with fail
  generalize w2.setCell ⟨w.heap.size, 6, none⟩ (Value.slice a5 nk c5) = W1 at *
  clear e6 f6
  obtain ⟨b0, hb0⟩ : ∃ b0, w.heap.size = b0 := ⟨_, rfl⟩
  rw [hb0] at XP3 XR3 NI3 HS3
  simp only [hb0]
  have HB0 := kide hb0
  clear hb0
  refine wp_region_x (SA := fun uu => uu.cell? ⟨b0, 4, none⟩ = some (Value.int .i64 bw) ∧ uu.cell? ⟨b0, 5, none⟩ = some (Value.slice wa nw wc)) (SB := fun _ => True) (k := 10) (by kernel_rfl) ?_
  have hbd : Below W1.heap.size W1 W1.drew := (Below.refl _ _).drew
  have XP_0 := kide (XP3.out.later hbd)
  have XR_0 := kide (XR3.out.later hbd)
  have NI_0 := kide (NI3.out.later hbd)
  have B_0 := kide (B3.out.trans (hbd.mono B3.out.size))
  have HS_0 : Hid (b0 + 2 ≤ W1.drew.heap.size) := Nat.le_trans HS3.out hbd.size
  clear hbd XP3 XR3 NI3 B3 HS3
  generalize W1.drew = u0 at *
  have c0_0 : u0.cell? ⟨b0, 4, none⟩ = some (Value.int .i64 bw) := XP_0.out.cell 4
  have c1_0 : u0.cell? ⟨b0, 5, none⟩ = some (Value.slice wa nw wc) := XP_0.out.cell 5
  have hs0 : Hid ((fun uu => uu.cell? ⟨b0, 4, none⟩ = some (Value.int .i64 bw) ∧ uu.cell? ⟨b0, 5, none⟩ = some (Value.slice wa nw wc)) u0) := ⟨c0_0, c1_0⟩
  try go_simp
  refine wpAnyX_both (T := fun _ => True) (i := 0) (v := Value.pointer (some ⟨b0, 4, none⟩)) rfl (by kernel_rfl) (by kernel_rfl) (by kernel_rfl) (fun _ _ _ h => by first | exact h | exact h.elim) (by decide) (fun _ _ => trivial) (fun _ _ => trivial) (Sx.before (by kernel_rfl) hs0.out) (Or.inl ⟨by rfl, fun uu hu => by go_simp⟩) ?_
  try go_simp
  refine wpAnyX_both (T := fun _ => True) (i := 1) (v := Value.pointer (some ⟨b0, 4, none⟩)) rfl (by kernel_rfl) (by kernel_rfl) (by kernel_rfl) (fun _ _ _ h => by first | exact h | exact h.elim) (by decide) (fun _ _ => trivial) (fun _ _ => trivial) (Sx.before (by kernel_rfl) hs0.out) (Or.inl ⟨by rfl, fun uu hu => by go_simp⟩) ?_
  try go_simp
  refine wpAnyX_take (i := 2) (v := Value.int .i64 bw) rfl (by kernel_rfl) (by kernel_rfl) (by kernel_rfl) (fun _ _ _ h => by first | exact h | exact h.elim) (by decide) (by kernel_rfl) (by kernel_rfl) hs0.out (Or.inl ⟨by rfl, fun uu hu => by obtain ⟨e0, e1⟩ := hu; go_simp⟩) ?_
  try go_simp
  refine wpAnyX_both (T := fun _ => True) (i := 4) (v := Value.pointer (some ⟨b0, 4, none⟩)) rfl (by kernel_rfl) (by kernel_rfl) (by kernel_rfl) (fun _ _ _ h => by first | exact h | exact h.elim) (by decide) (fun _ _ => trivial) (fun _ _ => trivial) (Sx.before (by kernel_rfl) hs0.out) (Or.inl ⟨by rfl, fun uu hu => by go_simp⟩) ?_
  try go_simp
  refine wpAnyX_both (T := fun _ => True) (i := 5) (v := Value.pointer (some ⟨b0, 5, none⟩)) rfl (by kernel_rfl) (by kernel_rfl) (by kernel_rfl) (fun _ _ _ h => by first | exact h | exact h.elim) (by decide) (fun _ _ => trivial) (fun _ _ => trivial) (Sx.before (by kernel_rfl) hs0.out) (Or.inl ⟨by rfl, fun uu hu => by go_simp⟩) ?_
  try go_simp
  refine wpAnyX_take (i := 6) (v := Value.slice wa nw wc) rfl (by kernel_rfl) (by kernel_rfl) (by kernel_rfl) (fun _ _ _ h => by first | exact h | exact h.elim) (by decide) (by kernel_rfl) (by kernel_rfl) hs0.out (Or.inl ⟨by rfl, fun uu hu => by obtain ⟨e0, e1⟩ := hu; go_simp⟩) ?_
  try go_simp
  refine wpAnyX_ready (rs := [3]) (by kernel_rfl) (by simp) (AllX.cons rfl (fun K hK => ?_) AllX.nil)
  go_simp
  have hbx : Below u0.heap.size u0 (u0.alloc (Obj.cells #[] 94)) := (Below.refl _ _).alloc (Nat.le_refl _) _
  have OE_1 : Hid (OwW (u0.alloc (Obj.cells #[] 94)) (b0 + 2) (.slice (some ⟨u0.heap.size, 0, none⟩) 0 0) []) := OwW.empty _ _ _ rfl HS_0.out
  have XP_1 := kide (XP_0.out.later hbx)
  have XR_1 := kide (XR_0.out.later hbx)
  have NI_1 := kide (NI_0.out.later hbx)
  have B_1 := kide (B_0.out.trans (hbx.mono B_0.out.size))
  have HS_1 : Hid (b0 + 2 ≤ (u0.alloc (Obj.cells #[] 94)).heap.size) := Nat.le_trans HS_0.out hbx.size
  obtain ⟨ge, hge⟩ : ∃ z, u0.heap.size = z := ⟨_, rfl⟩
  rw [hge] at OE_1
  simp only [hge]
  clear hge hbx
  generalize u0.alloc (Obj.cells #[] 94) = u1 at *
  have c0_1 : u1.cell? ⟨b0, 4, none⟩ = some (Value.int .i64 bw) := XP_1.out.cell 4
  have c1_1 : u1.cell? ⟨b0, 5, none⟩ = some (Value.slice wa nw wc) := XP_1.out.cell 5
  have hs1 : Hid ((fun uu => uu.cell? ⟨b0, 4, none⟩ = some (Value.int .i64 bw) ∧ uu.cell? ⟨b0, 5, none⟩ = some (Value.slice wa nw wc)) u1) := ⟨c0_1, c1_1⟩
  refine hK _ _ (Sx.before (by kernel_rfl) hs1.out) ?_
  clear hK K
  try go_simp
  refine wpAnyX_ready (rs := [7]) (by kernel_rfl) (by simp) (AllX.cons rfl (fun K hK => ?_) AllX.nil)
  refine step_appWr _ rfl _ _ rfl (b0 + 2) (.slice (some ⟨ge, 0, none⟩) 0 0) [] ws (by first | rfl | simp [Act.eval]) OE_1.out wa wc (by rw [HNW.out]; first | rfl | simp [Act.eval]) hw0 (HX.out _ B_1.out) (by rw [HNW.out]; simp; omega) HS_1.out ?_
  intro v7 u2 ho7 hg7
  try rw [List.nil_append] at ho7
  have XP_2 := kide (bz_gr XP_1.out (show b0 < b0 + 2 by omega) (fun k hk => own_ge OE_1.out hk) hg7)
  have XR_2 := kide (bz_gr XR_1.out (show b0 + 1 < b0 + 2 by omega) (fun k hk => own_ge OE_1.out hk) hg7)
  have NI_2 := kide (ni_gr NI_1.out ⟨_, OE_1.out⟩ hg7)
  have B_2 := kide (Below.grown B_1.out hg7 B_1.out.size (fun j hj => by have := own_ge OE_1.out hj; have := HB0.out; omega))
  have HS_2 : Hid (b0 + 2 ≤ u2.heap.size) := Nat.le_trans HS_1.out hg7.size
  obtain ⟨a7, c7, rfl, hn7⟩ := ho7.shape
  have HC7 := kide (cap0 ho7)
  rw [HNW.out]
  have NW_2 := kide hn7
  clear ho7 hg7 hn7
  have c0_2 : u2.cell? ⟨b0, 4, none⟩ = some (Value.int .i64 bw) := XP_2.out.cell 4
  have c1_2 : u2.cell? ⟨b0, 5, none⟩ = some (Value.slice wa nw wc) := XP_2.out.cell 5
  have hs2 : Hid ((fun uu => uu.cell? ⟨b0, 4, none⟩ = some (Value.int .i64 bw) ∧ uu.cell? ⟨b0, 5, none⟩ = some (Value.slice wa nw wc)) u2) := ⟨c0_2, c1_2⟩
  refine hK _ _ (Sx.before (by kernel_rfl) hs2.out) ?_
  clear hK K
  try go_simp
  refine wpAnyX_both (T := fun _ => True) (i := 8) (v := Value.agg #[Value.int .i64 bw, Value.slice a7 nw c7]) rfl (by kernel_rfl) (by kernel_rfl) (by kernel_rfl) (fun _ _ _ h => by first | exact h | exact h.elim) (by decide) (fun _ _ => trivial) (fun _ _ => trivial) (Sx.before (by kernel_rfl) hs2.out) (Or.inl ⟨by rfl, fun uu hu => by go_simp⟩) ?_
  try go_simp
  refine wpAnyX_both (T := fun _ => True) (i := 9) (v := Value.pointer (some ⟨b0, 4, none⟩)) rfl (by kernel_rfl) (by kernel_rfl) (by kernel_rfl) (fun _ _ _ h => by first | exact h | exact h.elim) (by decide) (fun _ _ => trivial) (fun _ _ => trivial) (Sx.before (by kernel_rfl) hs2.out) (Or.inl ⟨by rfl, fun uu hu => by go_simp⟩) ?_
  try go_simp
  refine wpAnyX_ready (rs := [10]) (by kernel_rfl) (by simp) (AllX.cons rfl (fun K hK => ?_) AllX.nil)
  have e4 := XP_2.out.cell 4
  have e5 := XP_2.out.cell 5
  have f4 := XP_2.out.froz 4
  have f5 := XP_2.out.froz 5
  simp at e4 e5
  go_simp
  have XP_3 : Hid (Bz ((u2.setCell ⟨b0, 4, none⟩ (Value.int .i64 bw)).setCell ⟨b0, 5, none⟩ (Value.slice a7 nw c7)) b0 #[Value.int .i64 op, Value.int .i64 vr, Value.int .i64 aa, Value.int .i64 bb, Value.int .i64 bw, Value.slice a7 nw c7, Value.slice a5 nk c5] 57) := (XP_2.out.set 4 _).set 5 _
  have XR_3 : Hid (Bz ((u2.setCell ⟨b0, 4, none⟩ (Value.int .i64 bw)).setCell ⟨b0, 5, none⟩ (Value.slice a7 nw c7)) (b0 + 1) #[Value.int .i64 0, Value.int .i64 0, Value.int .i64 0, Value.int .i64 0, Value.int .i64 0, Value.slice none 0 0, Value.slice none 0 0] 57) := (XR_2.out.other (by omega) 4 _).other (by omega) 5 _
  have NI_3 : Hid (Ni ((u2.setCell ⟨b0, 4, none⟩ (Value.int .i64 bw)).setCell ⟨b0, 5, none⟩ (Value.slice a7 nw c7)) (b0 + 2) a5 ks) := ni_set (ni_set NI_2.out XP_2.out (by decide) 4 _) (XP_2.out.set 4 (Value.int .i64 bw)) (by decide) 5 _
  have NW_3 : Hid (Nw ((u2.setCell ⟨b0, 4, none⟩ (Value.int .i64 bw)).setCell ⟨b0, 5, none⟩ (Value.slice a7 nw c7)) (b0 + 2) a7 ws) := nw_set (nw_set NW_2.out XP_2.out (by decide) 4 _) (XP_2.out.set 4 (Value.int .i64 bw)) (by decide) 5 _
  have B_3 : Hid (Below w.heap.size w ((u2.setCell ⟨b0, 4, none⟩ (Value.int .i64 bw)).setCell ⟨b0, 5, none⟩ (Value.slice a7 nw c7))) := (B_2.out.setCell (by rw [HB0.out]; exact Nat.le_refl _) _).setCell (by rw [HB0.out]; exact Nat.le_refl _) _
  clear e4 e5 f4 f5
  generalize ((u2.setCell ⟨b0, 4, none⟩ (Value.int .i64 bw)).setCell ⟨b0, 5, none⟩ (Value.slice a7 nw c7)) = u3 at *
  refine hK _ _ (Sx.behind (by kernel_rfl) trivial) ?_
  clear hK K
  try go_simp
  refine wpAnyX_done (by kernel_rfl) ?_ _
  have z0 := XP_3.out.cell 0
  have z1 := XP_3.out.cell 1
  have z2 := XP_3.out.cell 2
  have z3 := XP_3.out.cell 3
  have z4 := XP_3.out.cell 4
  have z5 := XP_3.out.cell 5
  have z6 := XP_3.out.cell 6
  have d0 := XR_3.out.cell 0
  have d1 := XR_3.out.cell 1
  have d2 := XR_3.out.cell 2
  have d3 := XR_3.out.cell 3
  have d4 := XR_3.out.cell 4
  have d5 := XR_3.out.cell 5
  have d6 := XR_3.out.cell 6
  have e0 := XR_3.out.froz 0
  have e1 := XR_3.out.froz 1
  have e2 := XR_3.out.froz 2
  have e3 := XR_3.out.froz 3
  have e4 := XR_3.out.froz 4
  have e5 := XR_3.out.froz 5
  have e6 := XR_3.out.froz 6
  simp at z0 d0 z1 d1 z2 d2 z3 d3 z4 d4 z5 d5 z6 d6
  go_wp2_with fail
  have XF : Hid (Bz (((((((u3.setCell ⟨b0 + 1, 0, none⟩ (Value.int .i64 op)).setCell ⟨b0 + 1, 1, none⟩ (Value.int .i64 vr)).setCell ⟨b0 + 1, 2, none⟩ (Value.int .i64 aa)).setCell ⟨b0 + 1, 3, none⟩ (Value.int .i64 bb)).setCell ⟨b0 + 1, 4, none⟩ (Value.int .i64 bw)).setCell ⟨b0 + 1, 5, none⟩ (Value.slice a7 nw c7)).setCell ⟨b0 + 1, 6, none⟩ (Value.slice a5 nk c5)) (b0 + 1) #[Value.int .i64 op, Value.int .i64 vr, Value.int .i64 aa, Value.int .i64 bb, Value.int .i64 bw, Value.slice a7 nw c7, Value.slice a5 nk c5] 57) := (((((((XR_3.out.set 0 (Value.int .i64 op)).set 1 (Value.int .i64 vr)).set 2 (Value.int .i64 aa)).set 3 (Value.int .i64 bb)).set 4 (Value.int .i64 bw)).set 5 (Value.slice a7 nw c7)).set 6 (Value.slice a5 nk c5))
  have NF := kide (nw_set (nw_set (nw_set (nw_set (nw_set (nw_set (nw_set NW_3.out XR_3.out (by decide) 0 (Value.int .i64 op)) (XR_3.out.set 0 (Value.int .i64 op)) (by decide) 1 (Value.int .i64 vr)) ((XR_3.out.set 0 (Value.int .i64 op)).set 1 (Value.int .i64 vr)) (by decide) 2 (Value.int .i64 aa)) (((XR_3.out.set 0 (Value.int .i64 op)).set 1 (Value.int .i64 vr)).set 2 (Value.int .i64 aa)) (by decide) 3 (Value.int .i64 bb)) ((((XR_3.out.set 0 (Value.int .i64 op)).set 1 (Value.int .i64 vr)).set 2 (Value.int .i64 aa)).set 3 (Value.int .i64 bb)) (by decide) 4 (Value.int .i64 bw)) (((((XR_3.out.set 0 (Value.int .i64 op)).set 1 (Value.int .i64 vr)).set 2 (Value.int .i64 aa)).set 3 (Value.int .i64 bb)).set 4 (Value.int .i64 bw)) (by decide) 5 (Value.slice a7 nw c7)) ((((((XR_3.out.set 0 (Value.int .i64 op)).set 1 (Value.int .i64 vr)).set 2 (Value.int .i64 aa)).set 3 (Value.int .i64 bb)).set 4 (Value.int .i64 bw)).set 5 (Value.slice a7 nw c7)) (by decide) 6 (Value.slice a5 nk c5))
  have IF := kide (ni_set (ni_set (ni_set (ni_set (ni_set (ni_set (ni_set NI_3.out XR_3.out (by decide) 0 (Value.int .i64 op)) (XR_3.out.set 0 (Value.int .i64 op)) (by decide) 1 (Value.int .i64 vr)) ((XR_3.out.set 0 (Value.int .i64 op)).set 1 (Value.int .i64 vr)) (by decide) 2 (Value.int .i64 aa)) (((XR_3.out.set 0 (Value.int .i64 op)).set 1 (Value.int .i64 vr)).set 2 (Value.int .i64 aa)) (by decide) 3 (Value.int .i64 bb)) ((((XR_3.out.set 0 (Value.int .i64 op)).set 1 (Value.int .i64 vr)).set 2 (Value.int .i64 aa)).set 3 (Value.int .i64 bb)) (by decide) 4 (Value.int .i64 bw)) (((((XR_3.out.set 0 (Value.int .i64 op)).set 1 (Value.int .i64 vr)).set 2 (Value.int .i64 aa)).set 3 (Value.int .i64 bb)).set 4 (Value.int .i64 bw)) (by decide) 5 (Value.slice a7 nw c7)) ((((((XR_3.out.set 0 (Value.int .i64 op)).set 1 (Value.int .i64 vr)).set 2 (Value.int .i64 aa)).set 3 (Value.int .i64 bb)).set 4 (Value.int .i64 bw)).set 5 (Value.slice a7 nw c7)) (by decide) 6 (Value.slice a5 nk c5))
  have BF : Hid (Below w.heap.size w (((((((u3.setCell ⟨b0 + 1, 0, none⟩ (Value.int .i64 op)).setCell ⟨b0 + 1, 1, none⟩ (Value.int .i64 vr)).setCell ⟨b0 + 1, 2, none⟩ (Value.int .i64 aa)).setCell ⟨b0 + 1, 3, none⟩ (Value.int .i64 bb)).setCell ⟨b0 + 1, 4, none⟩ (Value.int .i64 bw)).setCell ⟨b0 + 1, 5, none⟩ (Value.slice a7 nw c7)).setCell ⟨b0 + 1, 6, none⟩ (Value.slice a5 nk c5))) := (((((((B_3.out.setCell (by rw [HB0.out]; exact Nat.le_succ _) _).setCell (by rw [HB0.out]; exact Nat.le_succ _) _).setCell (by rw [HB0.out]; exact Nat.le_succ _) _).setCell (by rw [HB0.out]; exact Nat.le_succ _) _).setCell (by rw [HB0.out]; exact Nat.le_succ _) _).setCell (by rw [HB0.out]; exact Nat.le_succ _) _).setCell (by rw [HB0.out]; exact Nat.le_succ _) _)
  have q0 := XF.out.cell 0
  have q1 := XF.out.cell 1
  have q2 := XF.out.cell 2
  have q3 := XF.out.cell 3
  have q4 := XF.out.cell 4
  have q5 := XF.out.cell 5
  have q6 := XF.out.cell 6
  clear z0 d0 e0 z1 d1 e1 z2 d2 e2 z3 d3 e3 z4 d4 e4 z5 d5 e5 z6 d6 e6
  generalize (((((((u3.setCell ⟨b0 + 1, 0, none⟩ (Value.int .i64 op)).setCell ⟨b0 + 1, 1, none⟩ (Value.int .i64 vr)).setCell ⟨b0 + 1, 2, none⟩ (Value.int .i64 aa)).setCell ⟨b0 + 1, 3, none⟩ (Value.int .i64 bb)).setCell ⟨b0 + 1, 4, none⟩ (Value.int .i64 bw)).setCell ⟨b0 + 1, 5, none⟩ (Value.slice a7 nw c7)).setCell ⟨b0 + 1, 6, none⟩ (Value.slice a5 nk c5)) = uf at *
  exact bodyPost_ret (v := Value.agg #[Value.int .i64 op, Value.int .i64 vr, Value.int .i64 aa, Value.int .i64 bb, Value.int .i64 bw, Value.slice a7 nw c7, Value.slice a5 nk c5]) (by simp [results, Try.results41, go_sem, q0, q1, q2, q3, q4, q5, q6]) rfl ⟨a7, c7, a5, c5, rfl, Nw.mono NF.out (by have := HB0.out; omega), Ni.mono IF.out (by have := HB0.out; omega), ⟨HC7.out, HC5.out⟩, BF.out⟩

theorem l3CopyNode_any (x : Tc) (wa ka : Option Addr) (wc kc : Nat) (w : World) (hx : Rd w wa x.ws) (hk : RdI w ka x.ks) (hw0 : wa = none → wc = 0) (hk0 : ka = none → kc = 0) :
    Calls Try.prog 41 #[.agg #[Value.int .i64 x.op, Value.int .i64 x.vr, Value.int .i64 x.a, Value.int .i64 x.b, Value.int .i64 x.bw, Value.slice wa x.ws.length wc, Value.slice ka x.ks.length kc]] w (RetCp x.op x.vr x.a x.b x.bw x.ws x.ks x.ws.length x.ks.length w) :=
  (l3CopyNodeQ_any x wa ka wc kc w hx hk hw0 hk0).mono fun e w' ⟨a1, c1, a2, c2, h1, h2, h3, _, h5⟩ => ⟨a1, c1, a2, c2, h1, h2, h3, h5⟩

end Go.Proofs.Ytljcfokiocbgoaa

/- A store into a row that may be turned. -/
namespace Go.Proofs.Ytljcfokiocbgoaa
set_option linter.unusedVariables false
set_option linter.unusedSimpArgs false
open Go.RowKit
theorem grow_setT {w wr : World} {g : Nat} (h : w.grownBy wr (some g)) (i : Nat) (v : Value) : w.grownBy (wr.setCell ⟨g, i, none⟩ v) (some g) :=
  ⟨h.os, h.tape, h.output, by simpa using h.size, fun k hk hne => by rw [heap_setCell_other wr ⟨g, i, none⟩ k v (fun e => hne (by simp [e]))]; exact h.block k hk hne⟩
end Go.Proofs.Ytljcfokiocbgoaa
