/- Rows of bytes that a call itself has made, and what an append leaves alone; what the given l2Text answers. -/
import Derived.Test.YteainbakfeedpaaTD
import Derived.Test.YteainbakfeedpaaTG
import Derived.Test.YteainbakfeedpaaUA
import Derived.Lib.AppendStr
import Derived.Laws.OwnMore
namespace Go.Proofs.Yteainbakfeedpaa
set_option linter.unusedVariables false
set_option linter.unusedSimpArgs false
open Go.RowKit

theorem hid {p : Prop} (h : p) : Hid p := h

theorem Try.infoU8 : (Try.prog.info? 5).map (fun i => (i.zero, i.size, i.bytes)) = some (some (.int .u8 0), 1, 1) := by kernel_rfl

def u8s (bs : List Nat) : List Value := bs.map fun (b : Nat) => Value.int .u8 (b : Int)
theorem u8s_len (bs : List Nat) : (u8s bs).length = bs.length := by simp [u8s]
theorem strCells_bl (s : ByteArray) : Lib.strCells s = u8s (bl s) := by simp [Lib.strCells, u8s, bl]

/-- The slice v of bytes holds bs, in a row from block number 'base' on that the call itself has made. -/
def OwB (w : World) (base : Nat) (v : Value) (bs : List Nat) : Prop := w.ownsRow base 5 1 v bs.length (u8s bs)

/-- All but rows of bytes from block B on, and the blocks X, is as it was. -/
structure KeptU (B : Nat) (X : Nat → Prop) (w w' : World) : Prop where
  os : w'.os = w.os
  tape : w'.tape = w.tape
  output : w'.output = w.output
  size : w.heap.size ≤ w'.heap.size
  block : ∀ b, b < w.heap.size → ¬ X b → (b < B ∨ ∀ cs fr, w.heap[b]? ≠ some (.cells cs 5 fr)) → w'.heap[b]? = w.heap[b]?

theorem KeptU.refl (B : Nat) (X : Nat → Prop) (w : World) : KeptU B X w w := ⟨rfl, rfl, rfl, Nat.le_refl _, fun _ _ _ _ => rfl⟩
theorem KeptU.trans {B : Nat} {X : Nat → Prop} {w w' w'' : World} (h : KeptU B X w w') (k : KeptU B X w' w'') : KeptU B X w w'' := by
  refine ⟨k.os.trans h.os, k.tape.trans h.tape, k.output.trans h.output, Nat.le_trans h.size k.size, fun b hb hP hc => ?_⟩
  have e := h.block b hb hP hc
  rw [k.block b (Nat.lt_of_lt_of_le hb h.size) hP (by rw [e]; exact hc), e]
theorem KeptU.below {B : Nat} {X : Nat → Prop} {w0 w w' : World} (h : Below w0.heap.size w0 w) (k : KeptU B X w w') (hB : w0.heap.size ≤ B) (hX : ∀ b, b < w0.heap.size → ¬ X b) : Below w0.heap.size w0 w' :=
  ⟨k.os.trans h.os, k.tape.trans h.tape, k.output.trans h.output, Nat.le_trans h.size k.size, fun b hb => by rw [k.block b (Nat.lt_of_lt_of_le hb h.size) (hX b hb) (.inl (by omega)), h.block b hb]⟩
theorem KeptU.of_below {B : Nat} {X : Nat → Prop} {w w' : World} (h : Below w.heap.size w w') : KeptU B X w w' := ⟨h.os, h.tape, h.output, h.size, fun b hb _ _ => h.block b hb⟩
theorem KeptU.drewN {B : Nat} {X : Nat → Prop} {w w' : World} (h : KeptU B X w w') (n : Nat) : KeptU B X w (w'.drewN n) := ⟨h.os, h.tape, h.output, h.size, h.block⟩
theorem KeptU.drew {B : Nat} {X : Nat → Prop} {w w' : World} (h : KeptU B X w w') : KeptU B X w w'.drew := ⟨h.os, h.tape, h.output, h.size, h.block⟩
theorem KeptU.undrew {B : Nat} {X : Nat → Prop} {w w' : World} (h : KeptU B X w.drew w') : KeptU B X w w' := ⟨h.os, h.tape, h.output, h.size, h.block⟩
theorem KeptU.alloc {B : Nat} {X : Nat → Prop} {w w' : World} (h : KeptU B X w w') (o : Obj) : KeptU B X w (w'.alloc o) :=
  ⟨h.os, h.tape, h.output, by simp; exact Nat.le_succ_of_le h.size, fun b hb hP hc => by rw [Below.heap_alloc _ _ _ (Nat.lt_of_lt_of_le hb h.size)]; exact h.block b hb hP hc⟩
theorem owns_block' {w : World} {B e size n : Nat} {v : Value} {xs : List Value} (h : w.ownsRow B e size v n xs) {k : Nat} (hk : v.ownBlock = some k) : B ≤ k ∧ ∃ cs fr, w.heap[k]? = some (.cells cs e fr) := by
  rcases h.2 with ⟨rfl, -⟩ | ⟨g, cap, cur, rfl, hg, hh, -⟩
  · cases hk
  · cases hk; exact ⟨hg, _, _, hh⟩
theorem KeptU.grown {B : Nat} {X : Nat → Prop} {w w' w'' : World} {v : Value} {l : List Nat} (h : KeptU B X w w') (hg : w'.grownBy w'' v.ownBlock) (ho : OwB w' B v l) : KeptU B X w w'' := by
  refine h.trans ⟨hg.os, hg.tape, hg.output, hg.size, fun b hb hP hc => hg.block b hb fun e => ?_⟩
  obtain ⟨h1, cs, fr, h2⟩ := owns_block' ho e.symm
  rcases hc with hc | hc
  · omega
  · exact hc cs fr h2
/-- A block of another kind stays. -/
theorem KeptU.other {B : Nat} {X : Nat → Prop} {w w' : World} (h : KeptU B X w w') {b : Nat} {cs : Array Value} {t : TypeId} {fr : Nat × Nat} (hb : w.heap[b]? = some (.cells cs t fr)) (ht : t ≠ 5) (hX : ¬ X b) : w'.heap[b]? = some (.cells cs t fr) := by
  rw [h.block b (lt_of_block hb) hX (.inr fun cs' fr' e => by rw [hb] at e; cases e; exact ht rfl)]
  exact hb

theorem OwB.later {w w' : World} {B : Nat} {v : Value} {l : List Nat} (h : OwB w B v l) (hb : Below w.heap.size w w') : OwB w' B v l := by
  obtain ⟨h1, h2⟩ := h
  refine ⟨h1, ?_⟩
  rcases h2 with h2 | ⟨g, cap, cur, rfl, hg, hh, r⟩
  · exact .inl h2
  · exact .inr ⟨g, cap, cur, rfl, hg, by rw [hb.block g (lt_of_block hh)]; exact hh, r⟩
theorem OwB.alloc {w : World} {B : Nat} {v : Value} {l : List Nat} (h : OwB w B v l) (o : Obj) : OwB (w.alloc o) B v l := h.later ((Below.refl _ _).alloc (Nat.le_refl _) _)
theorem OwB.shape {w : World} {B : Nat} {v : Value} {l : List Nat} (h : OwB w B v l) : ∃ ao cap, v = .slice ao l.length cap ∧ l.length ≤ cap ∧ cap ≤ maxLen := by
  rcases h.2 with ⟨rfl, h'⟩ | ⟨g, cap, cur, rfl, -, -, h1, h2, -⟩
  · exact ⟨none, 0, by rw [h'], by omega, Nat.zero_le _⟩
  · exact ⟨some ⟨g, 0, none⟩, cap, rfl, h1, h2⟩
theorem OwB.nil (w : World) (B : Nat) (h : B ≤ w.heap.size) : OwB (w.alloc (.cells #[] 5)) B (.slice (some ⟨w.heap.size, 0, none⟩) 0 0) [] := World.ownsRow_made w #[] 0 h (Nat.zero_le _) (by simp)

/-- 'append(out, y)', out the call's own. -/
theorem wpList_appB (w : World) {ops : Array Oper} {rest : List Oper} {o : Oper} {a : Act} {Q : Exit → Act → World → Prop} (hgd : o.guard = none) (s x : Operand)
    (ho : o.op = .call { callee := .builtin .append, args := #[s, x], argTypes := #[22, 22] })
    (base : Nat) (v : Value) (bs : List Nat) (y : Nat) (hs : a.eval s = v) (hown : OwB w base v bs) (g : Nat) (hx : a.eval x = .slice (some ⟨g, 0, none⟩) 1 1)
    (hnew : w.cell? ⟨g, 0, none⟩ = some (.int .u8 (y : Int))) (hl : bs.length ≤ 1099511627776) (hbase : base ≤ w.heap.size)
    (h : ∀ v' w', OwB w' base v' (bs ++ [y]) → w.grownBy w' v.ownBlock → wpList Try.prog ops Q rest (a.put o.dst v') w') : wpList Try.prog ops Q (o :: rest) a w := by
  obtain ⟨i0, hi, hz0, hz1, hz2⟩ := info_parts Try.infoU8
  refine wpList_append_own w hgd s x 22 ho base 5 i0 (.int .u8 0) 1 1 Try.underlying22 hi hz0 hz1 hz2 rfl (by decide) v bs.length (u8s bs) hs hown ⟨g, 0, none⟩ 1 1 [.int .u8 (y : Int)] hx rfl ?_ ?_ ?_ ?_ hbase ?_
  · intro j u hj
    match j, hj with
    | 0, hj => simp at hj; subst hj; exact hnew
    | j + 1, hj => simp at hj
  · intro u hu
    simp at hu
    subst hu
    rfl
  · unfold maxLen; omega
  · omega
  · intro v' w' h1 h2 _
    refine h v' w' ?_ h2
    unfold OwB
    simpa [u8s] using h1

/-- 'append(out, text...)', out the call's own. -/
theorem wpList_appS (w : World) {ops : Array Oper} {rest : List Oper} {o : Oper} {a : Act} {Q : Exit → Act → World → Prop} (hgd : o.guard = none) (s x : Operand)
    (ho : o.op = .call { callee := .builtin .append, args := #[s, x], argTypes := #[22, 9] })
    (base : Nat) (v : Value) (bs : List Nat) (t : ByteArray) (hs : a.eval s = v) (hown : OwB w base v bs) (hx : a.eval x = .string t) (hl : bs.length + t.size ≤ 1099511627776) (hbase : base ≤ w.heap.size)
    (h : ∀ v' w', OwB w' base v' (bs ++ bl t) → w.grownBy w' v.ownBlock → wpList Try.prog ops Q rest (a.put o.dst v') w') : wpList Try.prog ops Q (o :: rest) a w := by
  obtain ⟨i0, hi, hz0, hz1, hz2⟩ := info_parts Try.infoU8
  refine Lib.wpList_append_own_string w hgd s x 22 9 ho base 5 i0 Try.underlying22 Try.underlying9 hi hz0 hz1 hz2 v bs.length (u8s bs) hs hown t hx (by unfold maxLen; omega) (by omega) hbase ?_
  intro v' w' h1 h2 _
  refine h v' w' ?_ h2
  unfold OwB
  rw [strCells_bl] at h1
  simpa [u8s, bl_len] using h1

theorem TxOk.start {out t : List Nat} (h : ∀ x ∈ out, x < 256) (ht : ∀ x ∈ t, x < 256) : TxOk out t (out ++ t) :=
  ⟨by simp, h, fun x hx => by rcases List.mem_append.1 hx with h' | h'; exact h x h'; exact ht x h', .inl rfl⟩

/-- How far the kids of a list are. -/
def KidsTo (out rest tot R : List Nat) : Prop := R.length + rest.length ≤ out.length + tot.length ∧ (∀ x ∈ R, x < 256) ∧ (R ++ rest = out ++ tot ∨ (20000 < R.length ∧ 20000 < out.length + tot.length))

theorem KidsTo.step {out s t rest tot R R' : List Nat} (h : KidsTo out (s ++ (t ++ rest)) tot R) (hs : TxOk (R ++ s) t R') : KidsTo out rest tot R' := by
  obtain ⟨h1, h2, h3⟩ := h
  obtain ⟨k1, -, k3, k4⟩ := hs
  simp only [List.length_append] at h1 k1 k4
  refine ⟨by omega, k3, ?_⟩
  rcases h3 with h3 | ⟨h3, h4⟩
  · have hl := congrArg List.length h3
    simp only [List.length_append] at hl
    rcases k4 with rfl | ⟨k4, k5⟩
    · left
      rw [← h3]
      simp [List.append_assoc]
    · right
      exact ⟨k4, by omega⟩
  · right
    refine ⟨?_, h4⟩
    rcases k4 with rfl | ⟨k4, k5⟩
    · simp; omega
    · exact k4

theorem KidsTo.shut {out tot R s : List Nat} (h : KidsTo out s tot R) (ho : ∀ x ∈ out, x < 256) (hs : ∀ x ∈ s, x < 256) : TxOk out tot (R ++ s) := by
  obtain ⟨h1, h2, h3⟩ := h
  refine ⟨by simpa using h1, ho, fun x hx => ?_, ?_⟩
  · rcases List.mem_append.1 hx with h' | h'
    · exact h2 x h'
    · exact hs x h'
  · rcases h3 with h3 | ⟨h3, h4⟩
    · exact .inl h3
    · exact .inr ⟨by simp; omega, h4⟩

end Go.Proofs.Yteainbakfeedpaa
