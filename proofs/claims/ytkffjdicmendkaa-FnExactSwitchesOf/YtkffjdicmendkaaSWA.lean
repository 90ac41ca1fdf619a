/- Rows of flags that grow by appends; and what SwitchesOf tells: the bits of all values, each from the lowest on. -/
import Derived.Test.YtkffjdicmendkaaCP
import Derived.Test.YtkffjdicmendkaaKH
import Derived.Test.YtkffjdicmendkaaKJ
import Derived.Test.YtkffjdicmendkaaSA
import Derived.Test.YtkffjdicmendkaaI
import Derived.Test.YtkffjdicmendkaaK
namespace Go.Proofs.Ytkffjdicmendkaa
set_option linter.unusedVariables false
set_option linter.unusedSimpArgs false
open Go.RowKit

def fls (bs : List Bool) : List Value := bs.map fun (b : Bool) => Value.bool b

/-- The slice v of flags holds bs, in a row from block number 'base' on that the call itself has made. -/
def OwF (w : World) (base : Nat) (v : Value) (bs : List Bool) : Prop := w.ownsRow base 4 1 v bs.length (fls bs)

theorem OwF.shape {w : World} {base : Nat} {v : Value} {bs : List Bool} (h : OwF w base v bs) (hl : bs.length ≤ 1048576) :
    ∃ a c, v = .slice a bs.length c ∧ RdFl w a bs ∧ bs.length ≤ c ∧ c ≤ maxLen := by
  obtain ⟨h1, ⟨rfl, h2⟩ | ⟨g, cap, cur, rfl, hg, hh, hc1, hc2, hsz, hcur⟩⟩ := h
  · have e := List.eq_nil_of_length_eq_zero h2
    subst e
    exact ⟨none, 0, rfl, ⟨hl, .inl rfl⟩, Nat.le_refl _, Nat.zero_le _⟩
  · refine ⟨some ⟨g, 0, none⟩, cap, rfl, ⟨hl, .inr ⟨g, 0, rfl, fun i hi => ?_⟩⟩, hc1, hc2⟩
    rw [Nat.zero_add, cell_of_row w g i cur _ _ hh]
    have h3 : (cur.toList.take (bs.length * 1))[i]? = (fls bs)[i]? := by rw [hcur]
    rw [List.getElem?_take, if_pos (by omega)] at h3
    simp only [Array.getElem?_toList] at h3
    rw [h3]
    simp [fls, List.getD, hi]

theorem OwF.nil (w : World) (base g : Nat) (hg : g = w.heap.size) (h : base ≤ g) : OwF (w.alloc (.cells #[] 4)) base (.slice (some ⟨g, 0, none⟩) 0 0) [] := by
  subst hg
  exact World.ownsRow_made w #[] 0 h (Nat.zero_le _) (by simp)

theorem OwF.alloc {w : World} {base : Nat} {v : Value} {bs : List Bool} (h : OwF w base v bs) (o : Obj) : OwF (w.alloc o) base v bs := World.ownsRow.alloc h o

theorem OwF.kept {w w' : World} {base : Nat} {v : Value} {bs : List Bool} (h : OwF w base v bs) (hb : Below w.heap.size w w') : OwF w' base v bs := by
  obtain ⟨h1, h2⟩ := h
  refine ⟨h1, ?_⟩
  rcases h2 with h2 | ⟨g, cap, cur, rfl, hg, hh, r⟩
  · exact .inl h2
  · exact .inr ⟨g, cap, cur, rfl, hg, by rw [hb.block g (lt_of_block hh)]; exact hh, r⟩

theorem OwF.own {w : World} {base : Nat} {v : Value} {bs : List Bool} (h : OwF w base v bs) : ∀ k, v.ownBlock = some k → base ≤ k := fun k hk => (World.ownsRow.lt h k hk).1

/-- 'append(out, y)', out the call's own. -/
theorem wpList_appF (w : World) {ops : Array Oper} {rest : List Oper} {o : Oper} {a : Act} {Q : Exit → Act → World → Prop} (hgd : o.guard = none) (s x : Operand)
    (ho : o.op = .call { callee := .builtin .append, args := #[s, x], argTypes := #[26, 26] })
    (base : Nat) (v : Value) (bs : List Bool) (y : Bool) (hs : a.eval s = v) (hown : OwF w base v bs) (g : Nat) (hx : a.eval x = .slice (some ⟨g, 0, none⟩) 1 1)
    (hnew : w.cell? ⟨g, 0, none⟩ = some (.bool y)) (hl : bs.length ≤ 4194304) (hbase : base ≤ w.heap.size)
    (h : ∀ v' w', OwF w' base v' (bs ++ [y]) → w.grownBy w' v.ownBlock → wpList Try.prog ops Q rest (a.put o.dst v') w') : wpList Try.prog ops Q (o :: rest) a w := by
  obtain ⟨i0, hi, hz0, hz1, hz2⟩ := info_parts Try.infoFlag
  refine wpList_append_own w hgd s x 26 ho base 4 i0 (.bool false) 1 1 Try.underlying26 hi hz0 hz1 hz2 rfl (by decide) v bs.length (fls bs) hs hown ⟨g, 0, none⟩ 1 1 [.bool y] hx rfl ?_ ?_ ?_ ?_ hbase ?_
  · intro j u hj
    match j, hj with
    | 0, hj => simp at hj; subst hj; simpa [Addr.add] using hnew
  · intro u hu; simp at hu; subst hu; rfl
  · unfold maxLen; omega
  · omega
  · intro v' w' h1 h2 _
    refine h v' w' ?_ h2
    unfold OwF
    simpa [fls] using h1


/-- The bits of one word, the lowest first. -/
def bitF (x : Int × List Nat) (k : Nat) : List Bool := (List.range k).map (tb x.2)
theorem bitF_len (x : Int × List Nat) (k : Nat) : (bitF x k).length = k := by simp [bitF]
theorem bitF_succ (x : Int × List Nat) (k : Nat) : bitF x (k + 1) = bitF x k ++ [tb x.2 k] := by simp [bitF, List.range_succ]
def swL (vs : List (Int × List Nat)) : List Bool := vs.flatMap fun x => bitF x x.1.toNat
theorem swL_snoc {vs : List (Int × List Nat)} {k : Nat} {x : Int × List Nat} (h : vs[k]? = some x) : swL (vs.take (k + 1)) = swL (vs.take k) ++ bitF x x.1.toNat := by
  rw [List.take_add_one, h]
  simp [swL]
def swR (ds : List Dc) (vs : List (Int × List Nat)) : List Bool × Bool := if valR ds vs = true then (swL vs, true) else ([], false)

/-- Of values for decls: how many bits the first k of them have. -/
theorem swL_len {ds : List Dc} {vs : List (Int × List Nat)} (h : valR ds vs = true) (k : Nat) (hk : k ≤ vs.length) : ((swL (vs.take k)).length : Int) = sumW (ds.take k) := by
  obtain ⟨h1, h2, h3⟩ := valR_iff.1 h
  induction k with
  | zero => simp [swL, sumW]
  | succ n ih =>
    have hv : vs[n]? = some (vs.getD n (0, [])) := by rw [List.getElem?_eq_getElem (by omega)]; simp [List.getD, List.getElem?_eq_getElem (show n < vs.length by omega)]
    have hd : ds[n]? = some (ds.getD n (.empty, 0)) := by rw [List.getElem?_eq_getElem (by omega)]; simp [List.getD, List.getElem?_eq_getElem (show n < ds.length by omega)]
    obtain ⟨g1, g2⟩ := h3 n (by omega)
    have hw := (right_W g1).1
    rw [swL_snoc hv, sumW_take hd, List.length_append, bitF_len]
    have := ih (by omega)
    omega
theorem swL_le {ds : List Dc} {vs : List (Int × List Nat)} (h : valR ds vs = true) (k : Nat) (hk : k ≤ vs.length) : (swL (vs.take k)).length ≤ 20000 := by
  have h1 := swL_len h k hk
  obtain ⟨h2, h3, -⟩ := valR_iff.1 h
  obtain ⟨-, g2, g3, -⟩ := dclR_iff.1 h2
  have e : sumW ds = sumW (ds.take k) + sumW (ds.drop k) := by rw [← sumW_append, List.take_append_drop]
  have := (sumW_le (ds := ds.drop k) fun d hd => g2 d (List.mem_of_mem_drop hd)).1
  omega
theorem swR_ok (ds : List Dc) (vs : List (Int × List Nat)) : (swR ds vs).1.length ≤ 20000 := by
  unfold swR
  split
  · rename_i h
    have := swL_le h vs.length (Nat.le_refl _)
    simpa using this
  · simp

/-- What both answer. -/
def RetF (w : World) (X : List Bool × Bool) (e : Ending) (w' : World) : Prop := ∃ v, e = .returned (.tuple #[v, .bool X.2]) ∧ OwF w' w.heap.size v X.1 ∧ Below w.heap.size w w'

end Go.Proofs.Ytkffjdicmendkaa
