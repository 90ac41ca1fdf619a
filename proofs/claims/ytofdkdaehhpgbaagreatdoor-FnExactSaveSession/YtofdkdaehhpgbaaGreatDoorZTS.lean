/- Several texts in one. -/
import Derived.Test.YtofdkdaehhpgbaaGreatDoorZA
import Derived.Test.YtofdkdaehhpgbaaGreatDoorZA
import Derived.Test.YtofdkdaehhpgbaaGreatDoorZTN
import Derived.Handy
import Derived.Test.YtofdkdaehhpgbaaGreatDoorZRX
import Derived.Test.YtofdkdaehhpgbaaGreatDoorZRX

/- Words held against one another, on the given side. -/
namespace Go.Proofs.YtofdkdaehhpgbaaGreatDoor
set_option linter.unusedVariables false
set_option linter.unusedSimpArgs false
open Go.RowKit

/-- Two boxes of a call stand. -/
def Bb (w : World) (o1 o2 : Obj) (wk : World) : Prop := Below (w.heap.size + 2) ((w.alloc o1).alloc o2) wk
theorem Bb.start (w : World) (o1 o2 : Obj) : Bb w o1 o2 ((w.alloc o1).alloc o2) := Below.refl _ _
theorem Bb.size {w wk : World} {o1 o2 : Obj} (h : Bb w o1 o2 wk) : w.heap.size + 2 ≤ wk.heap.size := by have := Below.size h; simpa using this
theorem Bb.next {w wk w1 : World} {o1 o2 : Obj} (h : Bb w o1 o2 wk) (hb : Below wk.heap.size wk w1) : Bb w o1 o2 w1 := Below.trans h (hb.mono h.size)
theorem Bb.below {w wk : World} {o1 o2 : Obj} (h : Bb w o1 o2 wk) : Below w.heap.size w wk := Below.trans (Below.alloc (Below.alloc (Below.refl _ _) (Nat.le_refl _) _) (by simp) _) (Below.mono h (by omega))
theorem Bb.one {w wk : World} {cs : Array Value} {t : TypeId} {o2 : Obj} (h : Bb w (.cells cs t) o2 wk) (i : Nat) : wk.cell? ⟨w.heap.size, i, none⟩ = cs[i]? := by
  rw [Below.cell h (by simp)]; simp [go_sem]
theorem Bb.two {w wk : World} {cs : Array Value} {t : TypeId} {o1 : Obj} (h : Bb w o1 (.cells cs t) wk) (i : Nat) : wk.cell? ⟨w.heap.size + 1, i, none⟩ = cs[i]? := by
  rw [Below.cell h (by simp)]; simp [go_sem]


end Go.Proofs.YtofdkdaehhpgbaaGreatDoor

/- Nodes shared: alike ones once, and where each went. -/
namespace Go.Proofs.YtofdkdaehhpgbaaGreatDoor
set_option linter.unusedVariables false
set_option linter.unusedSimpArgs false
open Go.RowKit

def tcEq (x y : Tc) : Bool := decide (x.op = y.op) && decide (x.vr = y.vr) && decide (x.a = y.a) && decide (x.b = y.b) && decide (x.bw = y.bw) && decide (x.ws = y.ws) && decide (x.ks = y.ks)
theorem tcEq_iff {x y : Tc} : tcEq x y = true ↔ x = y := by
  constructor
  · intro h
    simp only [tcEq, Bool.and_eq_true, decide_eq_true_eq] at h
    obtain ⟨⟨⟨⟨⟨⟨h1, h2⟩, h3⟩, h4⟩, h5⟩, h6⟩, h7⟩ := h
    cases x; cases y
    simp only at h1 h2 h3 h4 h5 h6 h7
    subst h1; subst h2; subst h3; subst h4; subst h5; subst h6; subst h7
    rfl
  · rintro rfl
    simp [tcEq]

/-- A node whose kids are where they went. -/
def mvT (to : List Int) (n : Tc) : Tc := ⟨n.op, n.vr, n.a, n.b, n.bw, n.ws, n.ks.map fun k => to.getD k.toNat 0⟩
/-- Where the first one is that is alike. -/
def fndT (out : List Tc) (m : Tc) : Option Nat := out.findIdx? (fun y => tcEq y m)
theorem fndT_some {out : List Tc} {m : Tc} {i : Nat} (h : fndT out m = some i) : out[i]? = some m ∧ ∀ j, j < i → out[j]? ≠ some m := by
  unfold fndT at h
  rw [List.findIdx?_eq_some_iff_getElem] at h
  obtain ⟨hi, h1, h2⟩ := h
  refine ⟨by rw [List.getElem?_eq_getElem hi, tcEq_iff.1 h1], fun j hj e => ?_⟩
  have hjl := (List.getElem?_eq_some_iff.1 e).1
  have := h2 j hj
  rw [List.getElem?_eq_getElem hjl] at e
  cases e
  exact this (tcEq_iff.2 rfl)
theorem fndT_none {out : List Tc} {m : Tc} (h : fndT out m = none) : m ∉ out := by
  unfold fndT at h
  rw [List.findIdx?_eq_none_iff] at h
  intro hm
  have := h m hm
  rw [tcEq_iff.2 rfl] at this
  cases this
theorem fndT_of {out : List Tc} {m : Tc} {i : Nat} (h : out[i]? = some m) (hf : ∀ j, j < i → out[j]? ≠ some m) : fndT out m = some i := by
  cases e : fndT out m with
  | none => exact absurd (List.mem_of_getElem? h) (fndT_none e)
  | some j =>
    obtain ⟨h1, h2⟩ := fndT_some e
    by_cases hji : j < i
    · exact absurd h1 (hf j hji)
    · by_cases hij : i < j
      · exact absurd h (h2 i hij)
      · rw [show j = i by omega]
theorem fndT_not {out : List Tc} {m : Tc} (h : m ∉ out) : fndT out m = none := by
  cases e : fndT out m with
  | none => rfl
  | some j => exact absurd (List.mem_of_getElem? (fndT_some e).1) h

def shStep (st : List Tc × List Int) (n : Tc) : List Tc × List Int :=
  match fndT st.1 (mvT st.2 n) with
  | some i => (st.1, st.2 ++ [(i : Int)])
  | none => (st.1 ++ [mvT st.2 n], st.2 ++ [(st.1.length : Int)])
def shTo (ns : List Tc) : Nat → List Tc × List Int
  | 0 => ([], [])
  | k + 1 => match ns[k]? with
    | some n => shStep (shTo ns k) n
    | none => shTo ns k
theorem shTo_succ {ns : List Tc} {k : Nat} {n : Tc} (h : ns[k]? = some n) : shTo ns (k + 1) = shStep (shTo ns k) n := by
  rw [shTo, h]

/-- But for its kids it is one of the nodes. -/
def Fm (ns : List Tc) (y : Tc) : Prop := ∃ n ∈ ns, y.op = n.op ∧ y.vr = n.vr ∧ y.a = n.a ∧ y.b = n.b ∧ y.bw = n.bw ∧ y.ws = n.ws ∧ y.ks.length = n.ks.length
structure ShF (ns : List Tc) (k : Nat) (st : List Tc × List Int) : Prop where
  l2 : st.2.length = k
  l1 : st.1.length ≤ k
  rg : ∀ x ∈ st.2, 0 ≤ x ∧ x < (st.1.length : Int)
  fm : ∀ y ∈ st.1, Fm ns y
  ks : ∀ y ∈ st.1, ∀ j ∈ y.ks, 0 ≤ j ∧ j < (st.1.length : Int)
  nd : st.1.Nodup
theorem ShF.step {ns : List Tc} {k : Nat} {st : List Tc × List Int} {n : Tc} (h : ShF ns k st) (hn : n ∈ ns) (hk : ∀ j ∈ n.ks, 0 ≤ j ∧ j < (k : Int)) : ShF ns (k + 1) (shStep st n) := by
  unfold shStep
  split
  · rename_i i e
    obtain ⟨h1, -⟩ := fndT_some e
    have hi := (List.getElem?_eq_some_iff.1 h1).1
    refine ⟨by simp [h.l2], by have := h.l1; simp only; omega, fun x hx => ?_, h.fm, h.ks, h.nd⟩
    rcases List.mem_append.1 hx with hx | hx
    · exact h.rg x hx
    · simp at hx
      subst hx
      simp only
      omega
  · rename_i e
    have hnm := fndT_none e
    have hkid : ∀ j ∈ (mvT st.2 n).ks, 0 ≤ j ∧ j < (st.1.length : Int) := fun j hj => by
      obtain ⟨q, hq, rfl⟩ := List.mem_map.1 hj
      obtain ⟨q0, q1⟩ := hk q hq
      have hl := h.l2
      have e1 : st.2.getD q.toNat 0 = st.2[q.toNat]'(by omega) := by
        rw [List.getD_eq_getElem?_getD, List.getElem?_eq_getElem (show q.toNat < st.2.length by omega)]
        rfl
      rw [e1]
      exact h.rg _ (List.getElem_mem _)
    refine ⟨by simp [h.l2], by have := h.l1; simp; omega, fun x hx => ?_, fun y hy => ?_, fun y hy j hj => ?_, ?_⟩
    · rcases List.mem_append.1 hx with hx | hx
      · have := h.rg x hx
        simp only [List.length_append, List.length_cons, List.length_nil]
        omega
      · simp at hx
        subst hx
        simp only [List.length_append, List.length_cons, List.length_nil]
        omega
    · rcases List.mem_append.1 hy with hy | hy
      · exact h.fm y hy
      · simp at hy
        subst hy
        exact ⟨n, hn, rfl, rfl, rfl, rfl, rfl, rfl, by simp [mvT]⟩
    · have key : 0 ≤ j ∧ j < (st.1.length : Int) := by
        rcases List.mem_append.1 hy with hy | hy
        · exact h.ks y hy j hj
        · simp at hy
          subst hy
          exact hkid j hj
      simp only [List.length_append, List.length_cons, List.length_nil]
      omega
    · refine List.nodup_append.2 ⟨h.nd, by simp, fun a ha b hb e => ?_⟩
      simp at hb
      subst hb
      subst e
      exact hnm ha
theorem shTo_f {ns : List Tc} (hk : ∀ (k : Nat) (n : Tc), ns[k]? = some n → ∀ j ∈ n.ks, 0 ≤ j ∧ j < (k : Int)) : ∀ k, k ≤ ns.length → ShF ns k (shTo ns k)
  | 0, _ => ⟨rfl, Nat.le_refl _, by simp [shTo], by simp [shTo], by simp [shTo], by simp [shTo]⟩
  | k + 1, h => by
    have hk2 : ns[k]? = some (ns[k]'(by omega)) := List.getElem?_eq_getElem (by omega)
    rw [shTo_succ hk2]
    exact (shTo_f hk k (by omega)).step (List.getElem_mem _) (hk k _ hk2)

/-- What may stand in the shared nodes. -/
theorem fm_ok {ns : List Tc} {y : Tc} (h : Fm ns y) (hns : ∀ n ∈ ns, okT n) {N : Nat} (hN : N ≤ 1048576) (hk : ∀ j ∈ y.ks, 0 ≤ j ∧ j < (N : Int)) : okT y := by
  obtain ⟨n, hn, e1, e2, e3, e4, e5, e6, e7⟩ := h
  obtain ⟨k1, k2, k3, k4, k5, k6, k7, k8, k9⟩ := hns n hn
  exact ⟨by rw [e1]; exact k1, by rw [e2]; exact k2, by rw [e3]; exact k3, by rw [e4]; exact k4, by rw [e5]; exact k5, by rw [e6]; exact k6, by rw [e6]; exact k7, by rw [e7]; exact k8, fun j hj => by have := hk j hj; exact ⟨by omega, by omega⟩⟩
theorem RdT.ok {w : World} {a : Option Addr} {xs : List Tg} (h : RdT w a xs) : ∀ n ∈ xs.map Tg.ct, okT n := by
  intro n hn
  obtain ⟨x, hx, rfl⟩ := List.mem_map.1 hn
  obtain ⟨i, hi⟩ := List.mem_iff_getElem?.1 hx
  rcases h.2 with h0 | ⟨b, o, -, hc⟩
  · rw [h0] at hx; cases hx
  · obtain ⟨-, h1, h2, k1, k2, k3, k4, k5⟩ := hc i x hi
    exact ⟨k1, k2, k3, k4, k5, h1.1, h1.2.1, h2.1, h2.2.1⟩

end Go.Proofs.YtofdkdaehhpgbaaGreatDoor

/- Nodes held against one another, on the given side. -/
namespace Go.Proofs.YtofdkdaehhpgbaaGreatDoor
set_option linter.unusedVariables false
set_option linter.unusedSimpArgs false
open Go.RowKit

theorem tcEq_no {x y : Tc} (h : x ≠ y) : tcEq x y = false := by
  cases e : tcEq x y with
  | false => rfl
  | true => exact absurd (tcEq_iff.1 e) h


end Go.Proofs.YtofdkdaehhpgbaaGreatDoor

/- 'append(out, list...)' of words and of numbers, the list wherever it lies, also where there is none. -/
namespace Go.Proofs.YtofdkdaehhpgbaaGreatDoor
set_option linter.unusedVariables false
set_option linter.unusedSimpArgs false
open Go.RowKit

theorem rd_cellsW {w : World} {ad : Addr} {ys : List Nat} (hr : Rd w (some ad) ys) : ∀ j u, (u64s ys).toList[j]? = some u → w.cell? (ad.add j) = some u := by
  intro j u hj
  have hj' : j < ys.length := by
    have := (List.getElem?_eq_some_iff.1 hj).1
    simpa [u64s] using this
  obtain ⟨-, -, h | ⟨b, o, e, hc⟩⟩ := hr
  · rw [h] at hj'; simp at hj'
  · cases e
    rw [Addr.add_lit, hc j hj']
    simp [u64s, hj'] at hj
    rw [← hj]
    simp [List.getD, hj']
theorem rd_noneW {w : World} {ys : List Nat} (hr : Rd w none ys) : ys = [] := by
  obtain ⟨-, -, h | ⟨b, o, e, hc⟩⟩ := hr
  · exact h
  · cases e

theorem wp_appWr (w : World) {o : Oper} {a : Act} {K : Act → World → Prop} {Q : Exit → Act → World → Prop} (s x : Operand)
    (ho : o.op = .call { callee := .builtin .append, args := #[s, x], argTypes := #[103, 103] })
    (base : Nat) (v : Value) (bs ys : List Nat) (hs : a.eval s = v) (hown : OwW w base v bs) (xa : Option Addr) (c : Nat) (hx : a.eval x = .slice xa ys.length c) (hc0 : xa = none → c = 0)
    (hr : Rd w xa ys) (hl : bs.length + ys.length ≤ 4194304) (hbase : base ≤ w.heap.size)
    (h : ∀ v' w', OwW w' base v' (bs ++ ys) → w.grownBy w' v.ownBlock → K (a.put o.dst v') w') : Oper.wp Tryz.prog o a w K Q := by
  obtain ⟨i0, hi, hz0, hz1, hz2⟩ := info_parts Tryz.infoU64
  cases xa with
  | none =>
    have e := rd_noneW hr
    subst e
    have ec := hc0 rfl
    subst ec
    have hr9 := run_append_owned_none (P := Tryz.prog) (w := w) base 103 o.type 153 i0 1 Tryz.underlying103 hi v bs.length (u64s bs).toList hown
    unfold Oper.wp execOp
    simp only [ho, resolve, invoke, builtin, Sem.run_bind, Sem.run_pure, Result.andThen_ok, List.map_toArray, List.map_cons, List.map_nil, hs, hx, List.length_nil, hr9]
    exact h v w (by rw [List.append_nil]; exact hown) (World.grownBy.refl w _)
  | some ad =>
    refine wp_append_own w s x 103 ho base 153 i0 (.int .u64 0) 1 8 Tryz.underlying103 hi hz0 hz1 hz2 rfl (by decide) v bs.length (u64s bs).toList hs hown ad ys.length c (u64s ys).toList hx (by simp [u64s]) (rd_cellsW hr) ?_ ?_ ?_ hbase ?_
    · intro u hu
      simp [u64s] at hu
      obtain ⟨_, _, rfl⟩ := hu
      rfl
    · unfold maxLen; omega
    · omega
    · intro v' w' h1 h2 _
      refine h v' w' ?_ h2
      unfold OwW
      simpa [u64s] using h1
theorem step_appWr (w : World) {ops : Array Oper} {o : Oper} {a : Act} {K : Act → World → Prop} {Q : Exit → Act → World → Prop} {E : Prop} (hgd : o.guard = none) (s x : Operand)
    (ho : o.op = .call { callee := .builtin .append, args := #[s, x], argTypes := #[103, 103] })
    (base : Nat) (v : Value) (bs ys : List Nat) (hs : a.eval s = v) (hown : OwW w base v bs) (xa : Option Addr) (c : Nat) (hx : a.eval x = .slice xa ys.length c) (hc0 : xa = none → c = 0)
    (hr : Rd w xa ys) (hl : bs.length + ys.length ≤ 4194304) (hbase : base ≤ w.heap.size)
    (h : ∀ v' w', OwW w' base v' (bs ++ ys) → w.grownBy w' v.ownBlock → K (a.put o.dst v') w') :
    if Region.wanted o (yielded ops a.tmps) = true then Oper.wp Tryz.prog o a w K Q else E := by
  have hw : Region.wanted o (yielded ops a.tmps) = true := by simp [Region.wanted, hgd]
  rw [if_pos hw]
  exact wp_appWr w s x ho base v bs ys hs hown xa c hx hc0 hr hl hbase h
theorem wpList_appWr (w : World) {ops : Array Oper} {rest : List Oper} {o : Oper} {a : Act} {Q : Exit → Act → World → Prop} (hgd : o.guard = none) (s x : Operand)
    (ho : o.op = .call { callee := .builtin .append, args := #[s, x], argTypes := #[103, 103] })
    (base : Nat) (v : Value) (bs ys : List Nat) (hs : a.eval s = v) (hown : OwW w base v bs) (xa : Option Addr) (c : Nat) (hx : a.eval x = .slice xa ys.length c) (hc0 : xa = none → c = 0)
    (hr : Rd w xa ys) (hl : bs.length + ys.length ≤ 4194304) (hbase : base ≤ w.heap.size)
    (h : ∀ v' w', OwW w' base v' (bs ++ ys) → w.grownBy w' v.ownBlock → wpList Tryz.prog ops Q rest (a.put o.dst v') w') : wpList Tryz.prog ops Q (o :: rest) a w :=
  wpList_plain hgd fun _ hK => wp_appWr w s x ho base v bs ys hs hown xa c hx hc0 hr hl hbase fun v' w' h2 h3 => hK _ _ (h v' w' h2 h3)

theorem rd_cellsI {w : World} {ad : Addr} {ys : List Int} (hr : RdI w (some ad) ys) : ∀ j u, (i64s ys).toList[j]? = some u → w.cell? (ad.add j) = some u := by
  intro j u hj
  have hj' : j < ys.length := by
    have := (List.getElem?_eq_some_iff.1 hj).1
    simpa [i64s] using this
  obtain ⟨-, -, h | ⟨b, o, e, hc⟩⟩ := hr
  · rw [h] at hj'; simp at hj'
  · cases e
    rw [Addr.add_lit, hc j hj']
    simp [i64s, hj'] at hj
    rw [← hj]
    simp [List.getD, hj']
theorem rd_noneI {w : World} {ys : List Int} (hr : RdI w none ys) : ys = [] := by
  obtain ⟨-, -, h | ⟨b, o, e, hc⟩⟩ := hr
  · exact h
  · cases e

theorem wp_appIr (w : World) {o : Oper} {a : Act} {K : Act → World → Prop} {Q : Exit → Act → World → Prop} (s x : Operand)
    (ho : o.op = .call { callee := .builtin .append, args := #[s, x], argTypes := #[106, 106] })
    (base : Nat) (v : Value) (bs ys : List Int) (hs : a.eval s = v) (hown : OI w base v bs) (xa : Option Addr) (c : Nat) (hx : a.eval x = .slice xa ys.length c) (hc0 : xa = none → c = 0)
    (hr : RdI w xa ys) (hl : bs.length + ys.length ≤ 4194304) (hbase : base ≤ w.heap.size)
    (h : ∀ v' w', OI w' base v' (bs ++ ys) → w.grownBy w' v.ownBlock → K (a.put o.dst v') w') : Oper.wp Tryz.prog o a w K Q := by
  obtain ⟨i0, hi, hz0, hz1, hz2⟩ := info_parts Tryz.infoI64
  cases xa with
  | none =>
    have e := rd_noneI hr
    subst e
    have ec := hc0 rfl
    subst ec
    have hr9 := run_append_owned_none (P := Tryz.prog) (w := w) base 106 o.type 2 i0 1 Tryz.underlying106 hi v bs.length (i64s bs).toList hown
    unfold Oper.wp execOp
    simp only [ho, resolve, invoke, builtin, Sem.run_bind, Sem.run_pure, Result.andThen_ok, List.map_toArray, List.map_cons, List.map_nil, hs, hx, List.length_nil, hr9]
    exact h v w (by rw [List.append_nil]; exact hown) (World.grownBy.refl w _)
  | some ad =>
    refine wp_append_own w s x 106 ho base 2 i0 (.int .i64 0) 1 8 Tryz.underlying106 hi hz0 hz1 hz2 rfl (by decide) v bs.length (i64s bs).toList hs hown ad ys.length c (i64s ys).toList hx (by simp [i64s]) (rd_cellsI hr) ?_ ?_ ?_ hbase ?_
    · intro u hu
      simp [i64s] at hu
      obtain ⟨_, _, rfl⟩ := hu
      rfl
    · unfold maxLen; omega
    · omega
    · intro v' w' h1 h2 _
      refine h v' w' ?_ h2
      unfold OI
      simpa [i64s] using h1
theorem step_appIr (w : World) {ops : Array Oper} {o : Oper} {a : Act} {K : Act → World → Prop} {Q : Exit → Act → World → Prop} {E : Prop} (hgd : o.guard = none) (s x : Operand)
    (ho : o.op = .call { callee := .builtin .append, args := #[s, x], argTypes := #[106, 106] })
    (base : Nat) (v : Value) (bs ys : List Int) (hs : a.eval s = v) (hown : OI w base v bs) (xa : Option Addr) (c : Nat) (hx : a.eval x = .slice xa ys.length c) (hc0 : xa = none → c = 0)
    (hr : RdI w xa ys) (hl : bs.length + ys.length ≤ 4194304) (hbase : base ≤ w.heap.size)
    (h : ∀ v' w', OI w' base v' (bs ++ ys) → w.grownBy w' v.ownBlock → K (a.put o.dst v') w') :
    if Region.wanted o (yielded ops a.tmps) = true then Oper.wp Tryz.prog o a w K Q else E := by
  have hw : Region.wanted o (yielded ops a.tmps) = true := by simp [Region.wanted, hgd]
  rw [if_pos hw]
  exact wp_appIr w s x ho base v bs ys hs hown xa c hx hc0 hr hl hbase h
theorem wpList_appIr (w : World) {ops : Array Oper} {rest : List Oper} {o : Oper} {a : Act} {Q : Exit → Act → World → Prop} (hgd : o.guard = none) (s x : Operand)
    (ho : o.op = .call { callee := .builtin .append, args := #[s, x], argTypes := #[106, 106] })
    (base : Nat) (v : Value) (bs ys : List Int) (hs : a.eval s = v) (hown : OI w base v bs) (xa : Option Addr) (c : Nat) (hx : a.eval x = .slice xa ys.length c) (hc0 : xa = none → c = 0)
    (hr : RdI w xa ys) (hl : bs.length + ys.length ≤ 4194304) (hbase : base ≤ w.heap.size)
    (h : ∀ v' w', OI w' base v' (bs ++ ys) → w.grownBy w' v.ownBlock → wpList Tryz.prog ops Q rest (a.put o.dst v') w') : wpList Tryz.prog ops Q (o :: rest) a w :=
  wpList_plain hgd fun _ hK => wp_appIr w s x ho base v bs ys hs hown xa c hx hc0 hr hl hbase fun v' w' h2 h3 => hK _ _ (h v' w' h2 h3)

end Go.Proofs.YtofdkdaehhpgbaaGreatDoor

/- Nodes copied, on the given side. -/
namespace Go.Proofs.YtofdkdaehhpgbaaGreatDoor
set_option linter.unusedVariables false
set_option linter.unusedSimpArgs false
open Go.RowKit

theorem OI.set_other {w : World} {B β : Nat} {v : Value} {xs : List Int} {cs : Array Value} {t : TypeId} (h : OI w B v xs) (hb : Bz w β cs t) (ht : t ≠ 2) (i : Nat) (u : Value) : OI (w.setCell ⟨β, i, none⟩ u) B v xs :=
  h.move fun b hb' => heap_setCell_other _ _ _ _ (fun e => by
    simp only [] at e
    subst e
    rcases h.2 with ⟨rfl, -⟩ | ⟨g, cap, cur, rfl, hg, hh, -⟩
    · cases hb'
    · cases hb'
      unfold Bz at hb
      rw [hb] at hh
      cases hh
      exact ht rfl)
theorem ni_set {w : World} {lo β : Nat} {a : Option Addr} {xs : List Int} {cs : Array Value} {t : TypeId} (h : Ni w lo a xs) (hB : Bz w β cs t) (ht : t ≠ 2) (i : Nat) (v : Value) : Ni (w.setCell ⟨β, i, none⟩ v) lo a xs :=
  Ni.kept h fun k cur hc => heap_setCell_other _ _ _ _ (fun e => by
    simp only [] at e
    subst e
    unfold Bz at hB
    rw [hB] at hc
    cases hc
    exact ht rfl)
theorem bz_gr {w w' : World} {b B : Nat} {cs : Array Value} {t : TypeId} {v : Value} (h : Bz w b cs t) (hb : b < B) (hv : ∀ k, v.ownBlock = some k → B ≤ k) (hg : w.grownBy w' v.ownBlock) : Bz w' b cs t := by
  unfold Bz
  rw [hg.block b h.lt (fun e => by have := hv b e.symm; omega)]
  exact h
theorem ni_gr {w w' : World} {lo B : Nat} {a : Option Addr} {xs : List Int} {v : Value} (h : Ni w lo a xs) (hw : ∃ ys, OwW w B v ys) (hg : w.grownBy w' v.ownBlock) : Ni w' lo a xs :=
  Ni.kept h fun k cur hc => hg.block k (lt_of_block hc) (fun e => by
    obtain ⟨ys, ho⟩ := hw
    rcases ho.2 with ⟨rfl, -⟩ | ⟨g, cap, cur', rfl, -, hh, -⟩
    · cases e
    · cases e
      rw [hc] at hh
      cases hh)

/-- What the copy of a node is. -/
def RetCp (op vr aa bb bw : Int) (ws : List Nat) (ks : List Int) (nw nk : Nat) (w : World) (e : Ending) (w' : World) : Prop := ∃ a1 c1 a2 c2, e = .returned (.agg #[Value.int .i64 op, Value.int .i64 vr, Value.int .i64 aa, Value.int .i64 bb, Value.int .i64 bw, Value.slice a1 nw c1, Value.slice a2 nk c2]) ∧ Nw w' w.heap.size a1 ws ∧ Ni w' w.heap.size a2 ks ∧ Below w.heap.size w w'

set_option maxHeartbeats 4000000 in
set_option maxRecDepth 100000 in
theorem l3CopyNode_any (x : Tc) (wa ka : Option Addr) (wc kc : Nat) (w : World) (hx : Rd w wa x.ws) (hk : RdI w ka x.ks) (hw0 : wa = none → wc = 0) (hk0 : ka = none → kc = 0) :
    Calls Tryz.prog 98 #[.agg #[Value.int .i64 x.op, Value.int .i64 x.vr, Value.int .i64 x.a, Value.int .i64 x.b, Value.int .i64 x.bw, Value.slice wa x.ws.length wc, Value.slice ka x.ks.length kc]] w (RetCp x.op x.vr x.a x.b x.bw x.ws x.ks x.ws.length x.ks.length w) := by
  obtain ⟨op, vr, aa, bb, bw, ws, ks⟩ := x
  simp only [] at hx hk ⊢
  obtain ⟨nw, hnw⟩ : ∃ n, ws.length = n := ⟨_, rfl⟩
  obtain ⟨nk, hnk⟩ : ∃ n, ks.length = n := ⟨_, rfl⟩
  simp only [hnw, hnk]
  have HNW := kide hnw
  have HNK := kide hnk
  have hlw := hx.1
  have hlk := hk.1
  rw [hnw] at hlw
  rw [hnk] at hlk
  have hb2 : Below w.heap.size w ((w.alloc (Obj.cells #[Value.int .i64 op, Value.int .i64 vr, Value.int .i64 aa, Value.int .i64 bb, Value.int .i64 bw, Value.slice wa nw wc, Value.slice ka nk kc] 108)).alloc (Obj.cells #[Value.int .i64 0, Value.int .i64 0, Value.int .i64 0, Value.int .i64 0, Value.int .i64 0, Value.slice none 0 0, Value.slice none 0 0] 108)) := ((Below.refl _ _).alloc (Nat.le_refl _) _).alloc (by simp) _
  have XP0 := kide (Bz.later (Bz.new w #[Value.int .i64 op, Value.int .i64 vr, Value.int .i64 aa, Value.int .i64 bb, Value.int .i64 bw, Value.slice wa nw wc, Value.slice ka nk kc] 108) ((Below.refl _ _).alloc (Nat.le_refl _) (Obj.cells #[Value.int .i64 0, Value.int .i64 0, Value.int .i64 0, Value.int .i64 0, Value.int .i64 0, Value.slice none 0 0, Value.slice none 0 0] 108)))
  have XR0 : Hid (Bz ((w.alloc (Obj.cells #[Value.int .i64 op, Value.int .i64 vr, Value.int .i64 aa, Value.int .i64 bb, Value.int .i64 bw, Value.slice wa nw wc, Value.slice ka nk kc] 108)).alloc (Obj.cells #[Value.int .i64 0, Value.int .i64 0, Value.int .i64 0, Value.int .i64 0, Value.int .i64 0, Value.slice none 0 0, Value.slice none 0 0] 108)) (w.heap.size + 1) #[Value.int .i64 0, Value.int .i64 0, Value.int .i64 0, Value.int .i64 0, Value.int .i64 0, Value.slice none 0 0, Value.slice none 0 0] 108) := by
    have h9 := Bz.new (w.alloc (Obj.cells #[Value.int .i64 op, Value.int .i64 vr, Value.int .i64 aa, Value.int .i64 bb, Value.int .i64 bw, Value.slice wa nw wc, Value.slice ka nk kc] 108)) #[Value.int .i64 0, Value.int .i64 0, Value.int .i64 0, Value.int .i64 0, Value.int .i64 0, Value.slice none 0 0, Value.slice none 0 0] 108
    rw [show (w.alloc (Obj.cells #[Value.int .i64 op, Value.int .i64 vr, Value.int .i64 aa, Value.int .i64 bb, Value.int .i64 bw, Value.slice wa nw wc, Value.slice ka nk kc] 108)).heap.size = w.heap.size + 1 by simp] at h9
    exact h9
  have hsz : ((w.alloc (Obj.cells #[Value.int .i64 op, Value.int .i64 vr, Value.int .i64 aa, Value.int .i64 bb, Value.int .i64 bw, Value.slice wa nw wc, Value.slice ka nk kc] 108)).alloc (Obj.cells #[Value.int .i64 0, Value.int .i64 0, Value.int .i64 0, Value.int .i64 0, Value.int .i64 0, Value.slice none 0 0, Value.slice none 0 0] 108)).heap.size = w.heap.size + 1 + 1 := by simp
  obtain ⟨W0, hW0⟩ : ∃ W0, (w.alloc (Obj.cells #[Value.int .i64 op, Value.int .i64 vr, Value.int .i64 aa, Value.int .i64 bb, Value.int .i64 bw, Value.slice wa nw wc, Value.slice ka nk kc] 108)).alloc (Obj.cells #[Value.int .i64 0, Value.int .i64 0, Value.int .i64 0, Value.int .i64 0, Value.int .i64 0, Value.slice none 0 0, Value.slice none 0 0] 108) = W0 := ⟨_, rfl⟩
  rw [hW0] at hb2 XP0 XR0 hsz
  have HW0 := kide hW0
  have hb3 : Below W0.heap.size W0 (W0.alloc (Obj.cells #[] 2)) := (Below.refl _ _).alloc (Nat.le_refl _) _
  have OE := kide (OI.empty W0 (w.heap.size + 2) (by omega))
  have XP1 := kide (XP0.out.later hb3)
  have XR1 := kide (XR0.out.later hb3)
  have B1 := kide (hb2.trans (hb3.mono hb2.size))
  have HX := kide (fun u (hu : Below w.heap.size w u) => hx.later hu)
  have HK := kide (fun u (hu : Below w.heap.size w u) => hk.later hu)
  have HSZ := kide hsz
  have HW1 : Hid (w.heap.size + 2 ≤ (W0.alloc (Obj.cells #[] 2)).heap.size) := by show _ ≤ _; simp; omega
  clear hb2 hb3 XP0 XR0 hx hk hnw hnk
  go_enter Tryz.func98, Tryz.ntmps98
  have y6 := XP1.out.cell 6
  simp at y6
  clear hW0 hsz
  go_wp2_with (at_builtin; rw [HW0.out]; refine wpList_appIr _ rfl _ _ rfl (w.heap.size + 2) (.slice (some ⟨W0.heap.size, 0, none⟩) 0 0) [] ks (by first | rfl | (simp [Act.eval, ← HW0.out])) OE.out ka kc (by rw [HNK.out]; first | rfl | simp [Act.eval]) hk0 (HK.out _ B1.out) (by rw [HNK.out]; simp; omega) HW1.out ?_)
  intro v2 w2 ho2 hg2
  try rw [List.nil_append] at ho2
  have XP2 := kide (bz_gr XP1.out (show w.heap.size < w.heap.size + 2 by omega) (fun k hk => (OE.out.lt hk).1) hg2)
  have XR2 := kide (bz_gr XR1.out (show w.heap.size + 1 < w.heap.size + 2 by omega) (fun k hk => (OE.out.lt hk).1) hg2)
  have B2 := kide (Below.grown B1.out hg2 B1.out.size (fun j hj => by have := (OE.out.lt hj).1; omega))
  have HS2 : Hid (w.heap.size + 2 ≤ w2.heap.size) := Nat.le_trans HW1.out hg2.size
  obtain ⟨a5, c5, rfl, hni⟩ := ho2.ni
  rw [HNK.out]
  have NI2 := kide hni
  have e6 := XP2.out.cell 6
  have f6 := XP2.out.froz 6
  simp at e6
  clear ho2 hg2 hni OE XP1 XR1 B1 HW1 y6 HSZ HW0
  have XP3 : Hid (Bz (w2.setCell ⟨w.heap.size, 6, none⟩ (Value.slice a5 nk c5)) w.heap.size #[Value.int .i64 op, Value.int .i64 vr, Value.int .i64 aa, Value.int .i64 bb, Value.int .i64 bw, Value.slice wa nw wc, Value.slice a5 nk c5] 108) := XP2.out.set 6 _
  have XR3 : Hid (Bz (w2.setCell ⟨w.heap.size, 6, none⟩ (Value.slice a5 nk c5)) (w.heap.size + 1) #[Value.int .i64 0, Value.int .i64 0, Value.int .i64 0, Value.int .i64 0, Value.int .i64 0, Value.slice none 0 0, Value.slice none 0 0] 108) := XR2.out.other (by omega) 6 _
  have NI3 := kide (ni_set NI2.out XP2.out (by decide) 6 (Value.slice a5 nk c5))
  have B3 : Hid (Below w.heap.size w (w2.setCell ⟨w.heap.size, 6, none⟩ (Value.slice a5 nk c5))) := B2.out.setCell (Nat.le_refl _) _
  have HS3 : Hid (w.heap.size + 2 ≤ (w2.setCell ⟨w.heap.size, 6, none⟩ (Value.slice a5 nk c5)).heap.size) := by show _ ≤ _; simpa using HS2.out
  clear XP2 XR2 NI2 B2 HS2
  go_wp2_with fail
  generalize w2.setCell ⟨w.heap.size, 6, none⟩ (Value.slice a5 nk c5) = W1 at *
  clear e6 f6
  obtain ⟨b0, hb0⟩ : ∃ b0, w.heap.size = b0 := ⟨_, rfl⟩
  rw [hb0] at XP3 XR3 NI3 HS3
  simp only [hb0]
  have HB0 := kide hb0
  clear hb0
  refine wp_region_x (SA := fun uu => uu.cell? ⟨b0, 4, none⟩ = some (Value.int .i64 bw) ∧ uu.cell? ⟨b0, 5, none⟩ = some (Value.slice wa nw wc)) (SB := fun _ => True) (k := 10) (by kernel_rfl) ?_
  have hbd : Below W1.heap.size W1 W1.drew := (Below.refl _ _).drew
  have XP_0 := kide (XP3.out.later hbd)
  have XR_0 := kide (XR3.out.later hbd)
  have NI_0 := kide (NI3.out.later hbd)
  have B_0 := kide (B3.out.trans (hbd.mono B3.out.size))
  have HS_0 : Hid (b0 + 2 ≤ W1.drew.heap.size) := Nat.le_trans HS3.out hbd.size
  clear hbd XP3 XR3 NI3 B3 HS3
  generalize W1.drew = u0 at *
  have c0_0 : u0.cell? ⟨b0, 4, none⟩ = some (Value.int .i64 bw) := XP_0.out.cell 4
  have c1_0 : u0.cell? ⟨b0, 5, none⟩ = some (Value.slice wa nw wc) := XP_0.out.cell 5
  have hs0 : Hid ((fun uu => uu.cell? ⟨b0, 4, none⟩ = some (Value.int .i64 bw) ∧ uu.cell? ⟨b0, 5, none⟩ = some (Value.slice wa nw wc)) u0) := ⟨c0_0, c1_0⟩
  try go_simp
  refine wpAnyX_both (T := fun _ => True) (i := 0) (v := Value.pointer (some ⟨b0, 4, none⟩)) rfl (by kernel_rfl) (by kernel_rfl) (by kernel_rfl) (fun _ _ _ h => by first | exact h | exact h.elim) (by decide) (fun _ _ => trivial) (fun _ _ => trivial) (Sx.before (by kernel_rfl) hs0.out) (Or.inl ⟨by rfl, fun uu hu => by go_simp⟩) ?_
  try go_simp
  refine wpAnyX_both (T := fun _ => True) (i := 1) (v := Value.pointer (some ⟨b0, 4, none⟩)) rfl (by kernel_rfl) (by kernel_rfl) (by kernel_rfl) (fun _ _ _ h => by first | exact h | exact h.elim) (by decide) (fun _ _ => trivial) (fun _ _ => trivial) (Sx.before (by kernel_rfl) hs0.out) (Or.inl ⟨by rfl, fun uu hu => by go_simp⟩) ?_
  try go_simp
  refine wpAnyX_take (i := 2) (v := Value.int .i64 bw) rfl (by kernel_rfl) (by kernel_rfl) (by kernel_rfl) (fun _ _ _ h => by first | exact h | exact h.elim) (by decide) (by kernel_rfl) (by kernel_rfl) hs0.out (Or.inl ⟨by rfl, fun uu hu => by obtain ⟨e0, e1⟩ := hu; go_simp⟩) ?_
  try go_simp
  refine wpAnyX_both (T := fun _ => True) (i := 4) (v := Value.pointer (some ⟨b0, 4, none⟩)) rfl (by kernel_rfl) (by kernel_rfl) (by kernel_rfl) (fun _ _ _ h => by first | exact h | exact h.elim) (by decide) (fun _ _ => trivial) (fun _ _ => trivial) (Sx.before (by kernel_rfl) hs0.out) (Or.inl ⟨by rfl, fun uu hu => by go_simp⟩) ?_
  try go_simp
  refine wpAnyX_both (T := fun _ => True) (i := 5) (v := Value.pointer (some ⟨b0, 5, none⟩)) rfl (by kernel_rfl) (by kernel_rfl) (by kernel_rfl) (fun _ _ _ h => by first | exact h | exact h.elim) (by decide) (fun _ _ => trivial) (fun _ _ => trivial) (Sx.before (by kernel_rfl) hs0.out) (Or.inl ⟨by rfl, fun uu hu => by go_simp⟩) ?_
  try go_simp
  refine wpAnyX_take (i := 6) (v := Value.slice wa nw wc) rfl (by kernel_rfl) (by kernel_rfl) (by kernel_rfl) (fun _ _ _ h => by first | exact h | exact h.elim) (by decide) (by kernel_rfl) (by kernel_rfl) hs0.out (Or.inl ⟨by rfl, fun uu hu => by obtain ⟨e0, e1⟩ := hu; go_simp⟩) ?_
  try go_simp
  refine wpAnyX_ready (rs := [3]) (by kernel_rfl) (by simp) (AllX.cons rfl (fun K hK => ?_) AllX.nil)
  go_simp
  have hbx : Below u0.heap.size u0 (u0.alloc (Obj.cells #[] 153)) := (Below.refl _ _).alloc (Nat.le_refl _) _
  have OE_1 : Hid (OwW (u0.alloc (Obj.cells #[] 153)) (b0 + 2) (.slice (some ⟨u0.heap.size, 0, none⟩) 0 0) []) := OwW.empty _ _ _ rfl HS_0.out
  have XP_1 := kide (XP_0.out.later hbx)
  have XR_1 := kide (XR_0.out.later hbx)
  have NI_1 := kide (NI_0.out.later hbx)
  have B_1 := kide (B_0.out.trans (hbx.mono B_0.out.size))
  have HS_1 : Hid (b0 + 2 ≤ (u0.alloc (Obj.cells #[] 153)).heap.size) := Nat.le_trans HS_0.out hbx.size
  obtain ⟨ge, hge⟩ : ∃ z, u0.heap.size = z := ⟨_, rfl⟩
  rw [hge] at OE_1
  simp only [hge]
  clear hge hbx
  generalize u0.alloc (Obj.cells #[] 153) = u1 at *
  have c0_1 : u1.cell? ⟨b0, 4, none⟩ = some (Value.int .i64 bw) := XP_1.out.cell 4
  have c1_1 : u1.cell? ⟨b0, 5, none⟩ = some (Value.slice wa nw wc) := XP_1.out.cell 5
  have hs1 : Hid ((fun uu => uu.cell? ⟨b0, 4, none⟩ = some (Value.int .i64 bw) ∧ uu.cell? ⟨b0, 5, none⟩ = some (Value.slice wa nw wc)) u1) := ⟨c0_1, c1_1⟩
  refine hK _ _ (Sx.before (by kernel_rfl) hs1.out) ?_
  clear hK K
  try go_simp
  refine wpAnyX_ready (rs := [7]) (by kernel_rfl) (by simp) (AllX.cons rfl (fun K hK => ?_) AllX.nil)
  refine step_appWr _ rfl _ _ rfl (b0 + 2) (.slice (some ⟨ge, 0, none⟩) 0 0) [] ws (by first | rfl | simp [Act.eval]) OE_1.out wa wc (by rw [HNW.out]; first | rfl | simp [Act.eval]) hw0 (HX.out _ B_1.out) (by rw [HNW.out]; simp; omega) HS_1.out ?_
  intro v7 u2 ho7 hg7
  try rw [List.nil_append] at ho7
  have XP_2 := kide (bz_gr XP_1.out (show b0 < b0 + 2 by omega) (fun k hk => own_ge OE_1.out hk) hg7)
  have XR_2 := kide (bz_gr XR_1.out (show b0 + 1 < b0 + 2 by omega) (fun k hk => own_ge OE_1.out hk) hg7)
  have NI_2 := kide (ni_gr NI_1.out ⟨_, OE_1.out⟩ hg7)
  have B_2 := kide (Below.grown B_1.out hg7 B_1.out.size (fun j hj => by have := own_ge OE_1.out hj; have := HB0.out; omega))
  have HS_2 : Hid (b0 + 2 ≤ u2.heap.size) := Nat.le_trans HS_1.out hg7.size
  obtain ⟨a7, c7, rfl, hn7⟩ := ho7.shape
  rw [HNW.out]
  have NW_2 := kide hn7
  clear ho7 hg7 hn7
  have c0_2 : u2.cell? ⟨b0, 4, none⟩ = some (Value.int .i64 bw) := XP_2.out.cell 4
  have c1_2 : u2.cell? ⟨b0, 5, none⟩ = some (Value.slice wa nw wc) := XP_2.out.cell 5
  have hs2 : Hid ((fun uu => uu.cell? ⟨b0, 4, none⟩ = some (Value.int .i64 bw) ∧ uu.cell? ⟨b0, 5, none⟩ = some (Value.slice wa nw wc)) u2) := ⟨c0_2, c1_2⟩
  refine hK _ _ (Sx.before (by kernel_rfl) hs2.out) ?_
  clear hK K
  try go_simp
  refine wpAnyX_both (T := fun _ => True) (i := 8) (v := Value.agg #[Value.int .i64 bw, Value.slice a7 nw c7]) rfl (by kernel_rfl) (by kernel_rfl) (by kernel_rfl) (fun _ _ _ h => by first | exact h | exact h.elim) (by decide) (fun _ _ => trivial) (fun _ _ => trivial) (Sx.before (by kernel_rfl) hs2.out) (Or.inl ⟨by rfl, fun uu hu => by go_simp⟩) ?_
  try go_simp
  refine wpAnyX_both (T := fun _ => True) (i := 9) (v := Value.pointer (some ⟨b0, 4, none⟩)) rfl (by kernel_rfl) (by kernel_rfl) (by kernel_rfl) (fun _ _ _ h => by first | exact h | exact h.elim) (by decide) (fun _ _ => trivial) (fun _ _ => trivial) (Sx.before (by kernel_rfl) hs2.out) (Or.inl ⟨by rfl, fun uu hu => by go_simp⟩) ?_
  try go_simp
  refine wpAnyX_ready (rs := [10]) (by kernel_rfl) (by simp) (AllX.cons rfl (fun K hK => ?_) AllX.nil)
  have e4 := XP_2.out.cell 4
  have e5 := XP_2.out.cell 5
  have f4 := XP_2.out.froz 4
  have f5 := XP_2.out.froz 5
  simp at e4 e5
  go_simp
  have XP_3 : Hid (Bz ((u2.setCell ⟨b0, 4, none⟩ (Value.int .i64 bw)).setCell ⟨b0, 5, none⟩ (Value.slice a7 nw c7)) b0 #[Value.int .i64 op, Value.int .i64 vr, Value.int .i64 aa, Value.int .i64 bb, Value.int .i64 bw, Value.slice a7 nw c7, Value.slice a5 nk c5] 108) := (XP_2.out.set 4 _).set 5 _
  have XR_3 : Hid (Bz ((u2.setCell ⟨b0, 4, none⟩ (Value.int .i64 bw)).setCell ⟨b0, 5, none⟩ (Value.slice a7 nw c7)) (b0 + 1) #[Value.int .i64 0, Value.int .i64 0, Value.int .i64 0, Value.int .i64 0, Value.int .i64 0, Value.slice none 0 0, Value.slice none 0 0] 108) := (XR_2.out.other (by omega) 4 _).other (by omega) 5 _
  have NI_3 : Hid (Ni ((u2.setCell ⟨b0, 4, none⟩ (Value.int .i64 bw)).setCell ⟨b0, 5, none⟩ (Value.slice a7 nw c7)) (b0 + 2) a5 ks) := ni_set (ni_set NI_2.out XP_2.out (by decide) 4 _) (XP_2.out.set 4 (Value.int .i64 bw)) (by decide) 5 _
  have NW_3 : Hid (Nw ((u2.setCell ⟨b0, 4, none⟩ (Value.int .i64 bw)).setCell ⟨b0, 5, none⟩ (Value.slice a7 nw c7)) (b0 + 2) a7 ws) := nw_set (nw_set NW_2.out XP_2.out (by decide) 4 _) (XP_2.out.set 4 (Value.int .i64 bw)) (by decide) 5 _
  have B_3 : Hid (Below w.heap.size w ((u2.setCell ⟨b0, 4, none⟩ (Value.int .i64 bw)).setCell ⟨b0, 5, none⟩ (Value.slice a7 nw c7))) := (B_2.out.setCell (by rw [HB0.out]; exact Nat.le_refl _) _).setCell (by rw [HB0.out]; exact Nat.le_refl _) _
  clear e4 e5 f4 f5
  generalize ((u2.setCell ⟨b0, 4, none⟩ (Value.int .i64 bw)).setCell ⟨b0, 5, none⟩ (Value.slice a7 nw c7)) = u3 at *
  refine hK _ _ (Sx.behind (by kernel_rfl) trivial) ?_
  clear hK K
  try go_simp
  refine wpAnyX_done (by kernel_rfl) ?_ _
  have z0 := XP_3.out.cell 0
  have z1 := XP_3.out.cell 1
  have z2 := XP_3.out.cell 2
  have z3 := XP_3.out.cell 3
  have z4 := XP_3.out.cell 4
  have z5 := XP_3.out.cell 5
  have z6 := XP_3.out.cell 6
  have d0 := XR_3.out.cell 0
  have d1 := XR_3.out.cell 1
  have d2 := XR_3.out.cell 2
  have d3 := XR_3.out.cell 3
  have d4 := XR_3.out.cell 4
  have d5 := XR_3.out.cell 5
  have d6 := XR_3.out.cell 6
  have e0 := XR_3.out.froz 0
  have e1 := XR_3.out.froz 1
  have e2 := XR_3.out.froz 2
  have e3 := XR_3.out.froz 3
  have e4 := XR_3.out.froz 4
  have e5 := XR_3.out.froz 5
  have e6 := XR_3.out.froz 6
  simp at z0 d0 z1 d1 z2 d2 z3 d3 z4 d4 z5 d5 z6 d6
  go_wp2_with fail
  have XF : Hid (Bz (((((((u3.setCell ⟨b0 + 1, 0, none⟩ (Value.int .i64 op)).setCell ⟨b0 + 1, 1, none⟩ (Value.int .i64 vr)).setCell ⟨b0 + 1, 2, none⟩ (Value.int .i64 aa)).setCell ⟨b0 + 1, 3, none⟩ (Value.int .i64 bb)).setCell ⟨b0 + 1, 4, none⟩ (Value.int .i64 bw)).setCell ⟨b0 + 1, 5, none⟩ (Value.slice a7 nw c7)).setCell ⟨b0 + 1, 6, none⟩ (Value.slice a5 nk c5)) (b0 + 1) #[Value.int .i64 op, Value.int .i64 vr, Value.int .i64 aa, Value.int .i64 bb, Value.int .i64 bw, Value.slice a7 nw c7, Value.slice a5 nk c5] 108) := (((((((XR_3.out.set 0 (Value.int .i64 op)).set 1 (Value.int .i64 vr)).set 2 (Value.int .i64 aa)).set 3 (Value.int .i64 bb)).set 4 (Value.int .i64 bw)).set 5 (Value.slice a7 nw c7)).set 6 (Value.slice a5 nk c5))
  have NF := kide (nw_set (nw_set (nw_set (nw_set (nw_set (nw_set (nw_set NW_3.out XR_3.out (by decide) 0 (Value.int .i64 op)) (XR_3.out.set 0 (Value.int .i64 op)) (by decide) 1 (Value.int .i64 vr)) ((XR_3.out.set 0 (Value.int .i64 op)).set 1 (Value.int .i64 vr)) (by decide) 2 (Value.int .i64 aa)) (((XR_3.out.set 0 (Value.int .i64 op)).set 1 (Value.int .i64 vr)).set 2 (Value.int .i64 aa)) (by decide) 3 (Value.int .i64 bb)) ((((XR_3.out.set 0 (Value.int .i64 op)).set 1 (Value.int .i64 vr)).set 2 (Value.int .i64 aa)).set 3 (Value.int .i64 bb)) (by decide) 4 (Value.int .i64 bw)) (((((XR_3.out.set 0 (Value.int .i64 op)).set 1 (Value.int .i64 vr)).set 2 (Value.int .i64 aa)).set 3 (Value.int .i64 bb)).set 4 (Value.int .i64 bw)) (by decide) 5 (Value.slice a7 nw c7)) ((((((XR_3.out.set 0 (Value.int .i64 op)).set 1 (Value.int .i64 vr)).set 2 (Value.int .i64 aa)).set 3 (Value.int .i64 bb)).set 4 (Value.int .i64 bw)).set 5 (Value.slice a7 nw c7)) (by decide) 6 (Value.slice a5 nk c5))
  have IF := kide (ni_set (ni_set (ni_set (ni_set (ni_set (ni_set (ni_set NI_3.out XR_3.out (by decide) 0 (Value.int .i64 op)) (XR_3.out.set 0 (Value.int .i64 op)) (by decide) 1 (Value.int .i64 vr)) ((XR_3.out.set 0 (Value.int .i64 op)).set 1 (Value.int .i64 vr)) (by decide) 2 (Value.int .i64 aa)) (((XR_3.out.set 0 (Value.int .i64 op)).set 1 (Value.int .i64 vr)).set 2 (Value.int .i64 aa)) (by decide) 3 (Value.int .i64 bb)) ((((XR_3.out.set 0 (Value.int .i64 op)).set 1 (Value.int .i64 vr)).set 2 (Value.int .i64 aa)).set 3 (Value.int .i64 bb)) (by decide) 4 (Value.int .i64 bw)) (((((XR_3.out.set 0 (Value.int .i64 op)).set 1 (Value.int .i64 vr)).set 2 (Value.int .i64 aa)).set 3 (Value.int .i64 bb)).set 4 (Value.int .i64 bw)) (by decide) 5 (Value.slice a7 nw c7)) ((((((XR_3.out.set 0 (Value.int .i64 op)).set 1 (Value.int .i64 vr)).set 2 (Value.int .i64 aa)).set 3 (Value.int .i64 bb)).set 4 (Value.int .i64 bw)).set 5 (Value.slice a7 nw c7)) (by decide) 6 (Value.slice a5 nk c5))
  have BF : Hid (Below w.heap.size w (((((((u3.setCell ⟨b0 + 1, 0, none⟩ (Value.int .i64 op)).setCell ⟨b0 + 1, 1, none⟩ (Value.int .i64 vr)).setCell ⟨b0 + 1, 2, none⟩ (Value.int .i64 aa)).setCell ⟨b0 + 1, 3, none⟩ (Value.int .i64 bb)).setCell ⟨b0 + 1, 4, none⟩ (Value.int .i64 bw)).setCell ⟨b0 + 1, 5, none⟩ (Value.slice a7 nw c7)).setCell ⟨b0 + 1, 6, none⟩ (Value.slice a5 nk c5))) := (((((((B_3.out.setCell (by rw [HB0.out]; exact Nat.le_succ _) _).setCell (by rw [HB0.out]; exact Nat.le_succ _) _).setCell (by rw [HB0.out]; exact Nat.le_succ _) _).setCell (by rw [HB0.out]; exact Nat.le_succ _) _).setCell (by rw [HB0.out]; exact Nat.le_succ _) _).setCell (by rw [HB0.out]; exact Nat.le_succ _) _).setCell (by rw [HB0.out]; exact Nat.le_succ _) _)
  have q0 := XF.out.cell 0
  have q1 := XF.out.cell 1
  have q2 := XF.out.cell 2
  have q3 := XF.out.cell 3
  have q4 := XF.out.cell 4
  have q5 := XF.out.cell 5
  have q6 := XF.out.cell 6
  clear z0 d0 e0 z1 d1 e1 z2 d2 e2 z3 d3 e3 z4 d4 e4 z5 d5 e5 z6 d6 e6
  generalize (((((((u3.setCell ⟨b0 + 1, 0, none⟩ (Value.int .i64 op)).setCell ⟨b0 + 1, 1, none⟩ (Value.int .i64 vr)).setCell ⟨b0 + 1, 2, none⟩ (Value.int .i64 aa)).setCell ⟨b0 + 1, 3, none⟩ (Value.int .i64 bb)).setCell ⟨b0 + 1, 4, none⟩ (Value.int .i64 bw)).setCell ⟨b0 + 1, 5, none⟩ (Value.slice a7 nw c7)).setCell ⟨b0 + 1, 6, none⟩ (Value.slice a5 nk c5)) = uf at *
  exact bodyPost_ret (v := Value.agg #[Value.int .i64 op, Value.int .i64 vr, Value.int .i64 aa, Value.int .i64 bb, Value.int .i64 bw, Value.slice a7 nw c7, Value.slice a5 nk c5]) (by simp [results, Tryz.results98, go_sem, q0, q1, q2, q3, q4, q5, q6]) rfl ⟨a7, c7, a5, c5, rfl, Nw.mono NF.out (by have := HB0.out; omega), Ni.mono IF.out (by have := HB0.out; omega), BF.out⟩

end Go.Proofs.YtofdkdaehhpgbaaGreatDoor

/- copyBits of words that may have no place. -/
namespace Go.Proofs.YtofdkdaehhpgbaaGreatDoor
set_option linter.unusedVariables false
set_option linter.unusedSimpArgs false
open Go.RowKit

set_option maxHeartbeats 4000000 in
set_option maxRecDepth 100000 in
theorem copyW (bw : Int) (wa : Option Addr) (c n : Nat) (ws : List Nat) (w : World) (hr : Rd w wa ws) (hn : ws.length = n) (hw0 : wa = none → c = 0) :
    Calls Tryz.prog 104 #[.agg #[.int .i64 bw, .slice wa n c]] w fun e w' => ∃ a2 c2, e = .returned (.agg #[.int .i64 bw, .slice a2 n c2]) ∧ Nw w' w.heap.size a2 ws ∧ Below w.heap.size w w' := by
  have hb2 : Below w.heap.size w ((w.alloc (Obj.cells #[Value.int .i64 bw, Value.slice wa n c] 105)).alloc (Obj.cells #[Value.int .i64 0, Value.slice none 0 0] 105)) := ((Below.refl _ _).alloc (Nat.le_refl _) _).alloc (by simp) _
  have hr2 := hr.later hb2
  have XP := kide (Bz.later (Bz.new w #[Value.int .i64 bw, Value.slice wa n c] 105) ((Below.refl _ _).alloc (Nat.le_refl _) (Obj.cells #[Value.int .i64 0, Value.slice none 0 0] 105)))
  have XR : Hid (Bz ((w.alloc (Obj.cells #[Value.int .i64 bw, Value.slice wa n c] 105)).alloc (Obj.cells #[Value.int .i64 0, Value.slice none 0 0] 105)) (w.heap.size + 1) #[Value.int .i64 0, Value.slice none 0 0] 105) := by
    have h9 := Bz.new (w.alloc (Obj.cells #[Value.int .i64 bw, Value.slice wa n c] 105)) #[Value.int .i64 0, Value.slice none 0 0] 105
    rw [show (w.alloc (Obj.cells #[Value.int .i64 bw, Value.slice wa n c] 105)).heap.size = w.heap.size + 1 by simp] at h9
    exact h9
  have hlW : Hid (w.heap.size + 2 ≤ ((w.alloc (Obj.cells #[Value.int .i64 bw, Value.slice wa n c] 105)).alloc (Obj.cells #[Value.int .i64 0, Value.slice none 0 0] 105)).heap.size) := by show _ ≤ _; simp
  have hl := hr2.1
  have HC := kide (fun u (hu : Below w.heap.size w u) => hr.later hu)
  have HN := kide hn
  have BW := kide hb2
  clear hr hr2 hb2
  go_enter Tryz.func104, Tryz.ntmps104
  go_wp2_with fail
  generalize ((w.alloc (Obj.cells #[Value.int .i64 bw, Value.slice wa n c] 105)).alloc (Obj.cells #[Value.int .i64 0, Value.slice none 0 0] 105)) = W at *
  obtain ⟨b0, hb0⟩ : ∃ b0, w.heap.size = b0 := ⟨_, rfl⟩
  rw [hb0] at XP XR hlW
  simp only [hb0]
  have HB0 := kide hb0
  clear hb0
  refine wp_region_x (SA := fun _ => False) (SB := fun uu => uu.cell? ⟨b0, 0, none⟩ = some (Value.int .i64 bw) ∧ uu.cell? ⟨b0, 1, none⟩ = some (Value.slice wa n c)) (k := 999) (by kernel_rfl) ?_
  have hbd : Below W.heap.size W W.drew := (Below.refl _ _).drew
  have XP0 := kide (XP.out.later hbd)
  have XR0 := kide (XR.out.later hbd)
  have hu0 := kide hbd
  clear hbd
  generalize W.drew = u0 at *
  have c0_0 : u0.cell? ⟨b0, 0, none⟩ = some (Value.int .i64 bw) := XP0.out.cell 0
  have c1_0 : u0.cell? ⟨b0, 1, none⟩ = some (Value.slice wa n c) := XP0.out.cell 1
  have hs0 : Hid ((fun uu => uu.cell? ⟨b0, 0, none⟩ = some (Value.int .i64 bw) ∧ uu.cell? ⟨b0, 1, none⟩ = some (Value.slice wa n c)) u0) := ⟨c0_0, c1_0⟩
  try go_simp
  refine wpAnyX_both (T := (fun _ => True)) (i := 0) (v := Value.pointer (some ⟨b0, 0, none⟩)) rfl (by kernel_rfl) (by kernel_rfl) (by kernel_rfl) (fun _ _ _ h => by first | exact h | exact h.elim) (by decide) (fun _ _ => trivial) (fun _ _ => trivial) (Sx.behind (by kernel_rfl) hs0.out) (Or.inl ⟨by rfl, fun uu hu => by go_simp⟩) ?_
  try go_simp
  refine wpAnyX_both (T := (fun uu => uu.cell? ⟨b0, 0, none⟩ = some (Value.int .i64 bw) ∧ uu.cell? ⟨b0, 1, none⟩ = some (Value.slice wa n c))) (i := 1) (v := Value.int .i64 bw) rfl (by kernel_rfl) (by kernel_rfl) (by kernel_rfl) (fun _ _ _ h => by first | exact h | exact h.elim) (by decide) (fun _ h => h.elim) (fun _ h => h) (Sx.behind (by kernel_rfl) hs0.out) (Or.inl ⟨by rfl, fun uu hu => by obtain ⟨e0, e1⟩ := hu; go_simp⟩) ?_
  try go_simp
  refine wpAnyX_both (T := (fun _ => True)) (i := 2) (v := Value.pointer (some ⟨b0, 1, none⟩)) rfl (by kernel_rfl) (by kernel_rfl) (by kernel_rfl) (fun _ _ _ h => by first | exact h | exact h.elim) (by decide) (fun _ _ => trivial) (fun _ _ => trivial) (Sx.behind (by kernel_rfl) hs0.out) (Or.inl ⟨by rfl, fun uu hu => by go_simp⟩) ?_
  try go_simp
  refine wpAnyX_both (T := (fun uu => uu.cell? ⟨b0, 0, none⟩ = some (Value.int .i64 bw) ∧ uu.cell? ⟨b0, 1, none⟩ = some (Value.slice wa n c))) (i := 3) (v := Value.slice wa n c) rfl (by kernel_rfl) (by kernel_rfl) (by kernel_rfl) (fun _ _ _ h => by first | exact h | exact h.elim) (by decide) (fun _ h => h.elim) (fun _ h => h) (Sx.behind (by kernel_rfl) hs0.out) (Or.inl ⟨by rfl, fun uu hu => by obtain ⟨e0, e1⟩ := hu; go_simp⟩) ?_
  try go_simp
  refine wpAnyX_ready (rs := [4]) (by kernel_rfl) (by simp) (AllX.cons rfl (fun K hK => ?_) AllX.nil)
  refine step_appWr _ rfl _ _ rfl W.heap.size (.slice none 0 0) [] ws (by first | rfl | simp [Act.eval]) (OwW.nils _ _) wa c (by rw [HN.out]; first | rfl | simp [Act.eval]) hw0 (HC.out _ (BW.out.trans (hu0.out.mono BW.out.size))) (by simp; omega) hu0.out.size ?_
  intro v5 u1 how hgr
  obtain ⟨a5, c5, rfl, hn5⟩ := how.shape
  have hbg : Below W.heap.size u0 u1 := Below.grown (Below.refl _ _) hgr hu0.out.size (fun j hj => by cases hj)
  have NN1 := kide hn5
  have XP1 : Hid (Bz u1 b0 #[Value.int .i64 bw, Value.slice wa n c] 105) := (hbg.block b0 (by have := hlW.out; omega)).trans XP0.out
  have XR1 : Hid (Bz u1 (b0 + 1) #[Value.int .i64 0, Value.slice none 0 0] 105) := (hbg.block (b0 + 1) (by have := hlW.out; omega)).trans XR0.out
  have hu1 := kide (hu0.out.trans hbg)
  rw [List.nil_append, HN.out]
  rw [List.nil_append] at NN1
  clear how hgr hbg hn5
  have c0_1 : u1.cell? ⟨b0, 0, none⟩ = some (Value.int .i64 bw) := XP1.out.cell 0
  have c1_1 : u1.cell? ⟨b0, 1, none⟩ = some (Value.slice wa n c) := XP1.out.cell 1
  have hs1 : Hid ((fun uu => uu.cell? ⟨b0, 0, none⟩ = some (Value.int .i64 bw) ∧ uu.cell? ⟨b0, 1, none⟩ = some (Value.slice wa n c)) u1) := ⟨c0_1, c1_1⟩
  refine hK _ _ (Sx.behind (by kernel_rfl) hs1.out) ?_
  clear hK K
  try go_simp
  refine wpAnyX_both (T := (fun _ => True)) (i := 5) (v := Value.agg #[Value.int .i64 bw, Value.slice a5 n c5]) rfl (by kernel_rfl) (by kernel_rfl) (by kernel_rfl) (fun _ _ _ h => by first | exact h | exact h.elim) (by decide) (fun _ _ => trivial) (fun _ _ => trivial) (Sx.behind (by kernel_rfl) hs1.out) (Or.inl ⟨by rfl, fun uu hu => by go_simp⟩) ?_
  try go_simp
  refine wpAnyX_ready (rs := [6]) (by kernel_rfl) (by simp) (AllX.cons rfl (fun K hK => ?_) AllX.nil)
  have e0 : u1.cell? ⟨b0 + 1, 0, none⟩ = some (Value.int .i64 0) := XR1.out.cell 0
  have e1 : u1.cell? ⟨b0 + 1, 1, none⟩ = some (Value.slice none 0 0) := XR1.out.cell 1
  have f0 := XR1.out.froz 0
  have f1 := XR1.out.froz 1
  go_simp
  have XR2 : Hid (Bz ((u1.setCell ⟨b0 + 1, 0, none⟩ (Value.int .i64 bw)).setCell ⟨b0 + 1, 1, none⟩ (Value.slice a5 n c5)) (b0 + 1) #[Value.int .i64 bw, Value.slice a5 n c5] 105) := (XR1.out.set 0 _).set 1 _
  have XP2 : Hid (Bz ((u1.setCell ⟨b0 + 1, 0, none⟩ (Value.int .i64 bw)).setCell ⟨b0 + 1, 1, none⟩ (Value.slice a5 n c5)) b0 #[Value.int .i64 bw, Value.slice wa n c] 105) := (XP1.out.other (by omega) 0 _).other (by omega) 1 _
  have NN2 : Hid (Nw ((u1.setCell ⟨b0 + 1, 0, none⟩ (Value.int .i64 bw)).setCell ⟨b0 + 1, 1, none⟩ (Value.slice a5 n c5)) W.heap.size a5 ws) := nw_set (nw_set NN1.out XR1.out (by decide) 0 _) (XR1.out.set 0 (Value.int .i64 bw)) (by decide) 1 _
  have BB2 : Hid (Below w.heap.size w ((u1.setCell ⟨b0 + 1, 0, none⟩ (Value.int .i64 bw)).setCell ⟨b0 + 1, 1, none⟩ (Value.slice a5 n c5))) := ((BW.out.trans (hu1.out.mono BW.out.size)).setCell (by rw [HB0.out]; exact Nat.le_succ _) _).setCell (by rw [HB0.out]; exact Nat.le_succ _) _
  clear e0 e1 f0 f1
  generalize (u1.setCell ⟨b0 + 1, 0, none⟩ (Value.int .i64 bw)).setCell ⟨b0 + 1, 1, none⟩ (Value.slice a5 n c5) = u2 at *
  have c0_2 : u2.cell? ⟨b0, 0, none⟩ = some (Value.int .i64 bw) := XP2.out.cell 0
  have c1_2 : u2.cell? ⟨b0, 1, none⟩ = some (Value.slice wa n c) := XP2.out.cell 1
  have hs2 : Hid ((fun uu => uu.cell? ⟨b0, 0, none⟩ = some (Value.int .i64 bw) ∧ uu.cell? ⟨b0, 1, none⟩ = some (Value.slice wa n c)) u2) := ⟨c0_2, c1_2⟩
  refine hK _ _ (Sx.behind (by kernel_rfl) hs2.out) ?_
  clear hK K
  try go_simp
  refine wpAnyX_done (by kernel_rfl) ?_ _
  go_wp2_with fail
  have y0 : u2.cell? ⟨b0 + 1, 0, none⟩ = some (Value.int .i64 bw) := XR2.out.cell 0
  have y1 : u2.cell? ⟨b0 + 1, 1, none⟩ = some (Value.slice a5 n c5) := XR2.out.cell 1
  exact bodyPost_ret (v := Value.agg #[Value.int .i64 bw, Value.slice a5 n c5]) (by simp [results, Tryz.results104, go_sem, y0, y1]) rfl ⟨a5, ⟨c5, rfl⟩, Nw.mono NN2.out (by have := hlW.out; have := HB0.out; omega), BB2.out⟩

end Go.Proofs.YtofdkdaehhpgbaaGreatDoor
