/- A Builder of the call's own, fresh or used (UB, UE), in a namespace of its own. -/
import Derived.Test.YteenmffhbgpahaaDoorWTJ
import Derived.Lib.AppendStr
import Derived.Laws.OwnMore
import Derived.Lib.Builder
import Derived.Lib.UnsafeStr
import Derived.Laws.Externs
namespace Go.Proofs.YteenmffhbgpahaaDoor.Bu
open Go.RowKit

theorem hid {p : Prop} (h : p) : Hid p := h
def bl (s : ByteArray) : List Nat := s.data.toList.map UInt8.toNat
theorem bl_len (s : ByteArray) : (bl s).length = s.size := by simp [bl]

theorem Tryd.infoU8 : (Tryd.prog.info? 5).map (fun i => (i.zero, i.size, i.bytes)) = some (some (.int .u8 0), 1, 1) := by kernel_rfl

def u8s (bs : List Nat) : List Value := bs.map fun (b : Nat) => Value.int .u8 (b : Int)
theorem u8s_len (bs : List Nat) : (u8s bs).length = bs.length := by simp [u8s]
theorem strCells_bl (s : ByteArray) : Lib.strCells s = u8s (bl s) := by simp [Lib.strCells, u8s, bl]

/-- The slice v of bytes holds bs, in a row from block number 'base' on that the call itself has made. -/
def OwB (w : World) (base : Nat) (v : Value) (bs : List Nat) : Prop := w.ownsRow base 5 1 v bs.length (u8s bs)

/-- All but rows of bytes from block B on, and the blocks X, is as it was. -/
structure KeptU (B : Nat) (X : Nat → Prop) (w w' : World) : Prop where
  os : w'.os = w.os
  tape : w'.tape = w.tape
  output : w'.output = w.output
  size : w.heap.size ≤ w'.heap.size
  block : ∀ b, b < w.heap.size → ¬ X b → (b < B ∨ ∀ cs fr, w.heap[b]? ≠ some (.cells cs 5 fr)) → w'.heap[b]? = w.heap[b]?

theorem KeptU.refl (B : Nat) (X : Nat → Prop) (w : World) : KeptU B X w w := ⟨rfl, rfl, rfl, Nat.le_refl _, fun _ _ _ _ => rfl⟩
theorem KeptU.trans {B : Nat} {X : Nat → Prop} {w w' w'' : World} (h : KeptU B X w w') (k : KeptU B X w' w'') : KeptU B X w w'' := by
  refine ⟨k.os.trans h.os, k.tape.trans h.tape, k.output.trans h.output, Nat.le_trans h.size k.size, fun b hb hP hc => ?_⟩
  have e := h.block b hb hP hc
  rw [k.block b (Nat.lt_of_lt_of_le hb h.size) hP (by rw [e]; exact hc), e]
theorem KeptU.below {B : Nat} {X : Nat → Prop} {w0 w w' : World} (h : Below w0.heap.size w0 w) (k : KeptU B X w w') (hB : w0.heap.size ≤ B) (hX : ∀ b, b < w0.heap.size → ¬ X b) : Below w0.heap.size w0 w' :=
  ⟨k.os.trans h.os, k.tape.trans h.tape, k.output.trans h.output, Nat.le_trans h.size k.size, fun b hb => by rw [k.block b (Nat.lt_of_lt_of_le hb h.size) (hX b hb) (.inl (by omega)), h.block b hb]⟩
theorem KeptU.of_below {B : Nat} {X : Nat → Prop} {w w' : World} (h : Below w.heap.size w w') : KeptU B X w w' := ⟨h.os, h.tape, h.output, h.size, fun b hb _ _ => h.block b hb⟩
theorem KeptU.drewN {B : Nat} {X : Nat → Prop} {w w' : World} (h : KeptU B X w w') (n : Nat) : KeptU B X w (w'.drewN n) := ⟨h.os, h.tape, h.output, h.size, h.block⟩
theorem KeptU.drew {B : Nat} {X : Nat → Prop} {w w' : World} (h : KeptU B X w w') : KeptU B X w w'.drew := ⟨h.os, h.tape, h.output, h.size, h.block⟩
theorem KeptU.undrew {B : Nat} {X : Nat → Prop} {w w' : World} (h : KeptU B X w.drew w') : KeptU B X w w' := ⟨h.os, h.tape, h.output, h.size, h.block⟩
theorem KeptU.alloc {B : Nat} {X : Nat → Prop} {w w' : World} (h : KeptU B X w w') (o : Obj) : KeptU B X w (w'.alloc o) :=
  ⟨h.os, h.tape, h.output, by simp; exact Nat.le_succ_of_le h.size, fun b hb hP hc => by rw [Below.heap_alloc _ _ _ (Nat.lt_of_lt_of_le hb h.size)]; exact h.block b hb hP hc⟩
theorem owns_block' {w : World} {B e size n : Nat} {v : Value} {xs : List Value} (h : w.ownsRow B e size v n xs) {k : Nat} (hk : v.ownBlock = some k) : B ≤ k ∧ ∃ cs fr, w.heap[k]? = some (.cells cs e fr) := by
  rcases h.2 with ⟨rfl, -⟩ | ⟨g, cap, cur, rfl, hg, hh, -⟩
  · cases hk
  · cases hk; exact ⟨hg, _, _, hh⟩
theorem KeptU.grown {B : Nat} {X : Nat → Prop} {w w' w'' : World} {v : Value} {l : List Nat} (h : KeptU B X w w') (hg : w'.grownBy w'' v.ownBlock) (ho : OwB w' B v l) : KeptU B X w w'' := by
  refine h.trans ⟨hg.os, hg.tape, hg.output, hg.size, fun b hb hP hc => hg.block b hb fun e => ?_⟩
  obtain ⟨h1, cs, fr, h2⟩ := owns_block' ho e.symm
  rcases hc with hc | hc
  · omega
  · exact hc cs fr h2
/-- A block of another kind stays. -/
theorem KeptU.other {B : Nat} {X : Nat → Prop} {w w' : World} (h : KeptU B X w w') {b : Nat} {cs : Array Value} {t : TypeId} {fr : Nat × Nat} (hb : w.heap[b]? = some (.cells cs t fr)) (ht : t ≠ 5) (hX : ¬ X b) : w'.heap[b]? = some (.cells cs t fr) := by
  rw [h.block b (lt_of_block hb) hX (.inr fun cs' fr' e => by rw [hb] at e; cases e; exact ht rfl)]
  exact hb

theorem OwB.later {w w' : World} {B : Nat} {v : Value} {l : List Nat} (h : OwB w B v l) (hb : Below w.heap.size w w') : OwB w' B v l := by
  obtain ⟨h1, h2⟩ := h
  refine ⟨h1, ?_⟩
  rcases h2 with h2 | ⟨g, cap, cur, rfl, hg, hh, r⟩
  · exact .inl h2
  · exact .inr ⟨g, cap, cur, rfl, hg, by rw [hb.block g (lt_of_block hh)]; exact hh, r⟩
theorem OwB.alloc {w : World} {B : Nat} {v : Value} {l : List Nat} (h : OwB w B v l) (o : Obj) : OwB (w.alloc o) B v l := h.later ((Below.refl _ _).alloc (Nat.le_refl _) _)
theorem OwB.shape {w : World} {B : Nat} {v : Value} {l : List Nat} (h : OwB w B v l) : ∃ ao cap, v = .slice ao l.length cap ∧ l.length ≤ cap ∧ cap ≤ maxLen := by
  rcases h.2 with ⟨rfl, h'⟩ | ⟨g, cap, cur, rfl, -, -, h1, h2, -⟩
  · exact ⟨none, 0, by rw [h'], by omega, Nat.zero_le _⟩
  · exact ⟨some ⟨g, 0, none⟩, cap, rfl, h1, h2⟩
theorem OwB.nil (w : World) (B : Nat) (h : B ≤ w.heap.size) : OwB (w.alloc (.cells #[] 5)) B (.slice (some ⟨w.heap.size, 0, none⟩) 0 0) [] := World.ownsRow_made w #[] 0 h (Nat.zero_le _) (by simp)

/-- 'append(out, y)', out the call's own. -/
theorem wpList_appB (w : World) {ops : Array Oper} {rest : List Oper} {o : Oper} {a : Act} {Q : Exit → Act → World → Prop} (hgd : o.guard = none) (s x : Operand)
    (ho : o.op = .call { callee := .builtin .append, args := #[s, x], argTypes := #[61, 61] })
    (base : Nat) (v : Value) (bs : List Nat) (y : Nat) (hs : a.eval s = v) (hown : OwB w base v bs) (g : Nat) (hx : a.eval x = .slice (some ⟨g, 0, none⟩) 1 1)
    (hnew : w.cell? ⟨g, 0, none⟩ = some (.int .u8 (y : Int))) (hl : bs.length ≤ 1099511627776) (hbase : base ≤ w.heap.size)
    (h : ∀ v' w', OwB w' base v' (bs ++ [y]) → w.grownBy w' v.ownBlock → wpList Tryd.prog ops Q rest (a.put o.dst v') w') : wpList Tryd.prog ops Q (o :: rest) a w := by
  obtain ⟨i0, hi, hz0, hz1, hz2⟩ := info_parts Tryd.infoU8
  refine wpList_append_own w hgd s x 61 ho base 5 i0 (.int .u8 0) 1 1 Tryd.underlying61 hi hz0 hz1 hz2 rfl (by decide) v bs.length (u8s bs) hs hown ⟨g, 0, none⟩ 1 1 [.int .u8 (y : Int)] hx rfl ?_ ?_ ?_ ?_ hbase ?_
  · intro j u hj
    match j, hj with
    | 0, hj => simp at hj; subst hj; exact hnew
    | j + 1, hj => simp at hj
  · intro u hu
    simp at hu
    subst hu
    rfl
  · unfold maxLen; omega
  · omega
  · intro v' w' h1 h2 _
    refine h v' w' ?_ h2
    unfold OwB
    simpa [u8s] using h1

/-- 'append(out, text...)', out the call's own. -/
theorem wpList_appS (w : World) {ops : Array Oper} {rest : List Oper} {o : Oper} {a : Act} {Q : Exit → Act → World → Prop} (hgd : o.guard = none) (s x : Operand)
    (ho : o.op = .call { callee := .builtin .append, args := #[s, x], argTypes := #[61, 9] })
    (base : Nat) (v : Value) (bs : List Nat) (t : ByteArray) (hs : a.eval s = v) (hown : OwB w base v bs) (hx : a.eval x = .string t) (hl : bs.length + t.size ≤ 1099511627776) (hbase : base ≤ w.heap.size)
    (h : ∀ v' w', OwB w' base v' (bs ++ bl t) → w.grownBy w' v.ownBlock → wpList Tryd.prog ops Q rest (a.put o.dst v') w') : wpList Tryd.prog ops Q (o :: rest) a w := by
  obtain ⟨i0, hi, hz0, hz1, hz2⟩ := info_parts Tryd.infoU8
  refine Lib.wpList_append_own_string w hgd s x 61 9 ho base 5 i0 Tryd.underlying61 Tryd.underlying9 hi hz0 hz1 hz2 v bs.length (u8s bs) hs hown t hx (by unfold maxLen; omega) (by omega) hbase ?_
  intro v' w' h1 h2 _
  refine h v' w' ?_ h2
  unfold OwB
  rw [strCells_bl] at h1
  simpa [u8s, bl_len] using h1

theorem cellNew (u : World) (x : Value) (t : TypeId) (k : Nat) (hk : k = u.heap.size) : (u.alloc (.cells #[x] t)).cell? ⟨k, 0, none⟩ = some x := by subst hk; simp
theorem bSize : (Tryd.prog.info? 63).map TypeInfo.size = some 2 := by kernel_rfl
theorem bLies : liesAt Tryd.prog Tryd.prog.depth 63 (2 / Tryd.prog.cellsOf 63) 0 63 1 = true := by kernel_rfl

set_option maxHeartbeats 1000000 in
set_option maxRecDepth 100000 in
theorem check_used (b : Nat) (w : World) (h0 : w.cell? ⟨b, 0, none⟩ = some (.pointer (some ⟨b, 0, none⟩))) :
    Calls Tryd.prog 62 #[.pointer (some ⟨b, 0, none⟩)] w fun e w' => e = .returned (.tuple #[]) ∧ w' = w := by
  obtain ⟨j, hj, hjs⟩ := Option.map_eq_some_iff.1 bSize
  go_enter Tryd.func62, Tryd.ntmps62
  go_wp2
  rw [Lib.run_neq_ptr_same w _ Tryd.underlying60 hj]
  go_wp2
  go_end0
  exact ⟨rfl, rfl⟩

set_option maxHeartbeats 1000000 in
set_option maxRecDepth 100000 in
theorem check_fresh (b : Nat) (w : World) (h0 : w.cell? ⟨b, 0, none⟩ = some (.pointer none)) (hsh : w.shape? b = some (63, 2)) (hfz : w.frozen? ⟨b, 0, none⟩ = false) :
    Calls Tryd.prog 62 #[.pointer (some ⟨b, 0, none⟩)] w fun e w' => e = .returned (.tuple #[]) ∧ w' = w.setCell ⟨b, 0, none⟩ (.pointer (some ⟨b, 0, none⟩)) := by
  obtain ⟨j, hj, hjs⟩ := Option.map_eq_some_iff.1 bSize
  go_enter Tryd.func62, Tryd.ntmps62
  go_wp2
  rw [Lib.run_to_unsafe w ⟨b, 0, none⟩ Tryd.underlying60 Tryd.underlying134 hj (by rw [hjs]; decide) hsh (Nat.zero_lt_succ 1)]
  simp only [Result.andThen]
  rw [Oper.upon_value]
  go_wp2
  rw [run_callFunc_extern Tryd.func77 (by kernel_rfl) (by kernel_rfl) (by kernel_rfl) (e := Extern.AbiNoEscape.same) (by kernel_rfl), Lib.run_noEscape]
  simp only [Result.andThen]
  rw [Oper.upon_value]
  go_wp2
  rw [Lib.run_from_unsafe w ⟨b, 0, none⟩ Tryd.underlying134 Tryd.underlying60 hj hsh bLies]
  simp only [Result.andThen]
  rw [Oper.upon_value]
  go_wp2
  go_end0
  exact ⟨rfl, rfl⟩

/-- A builder of the call's own, fresh or used, that holds the bytes l. -/
def Bd (B b : Nat) (l : List Nat) (w : World) : Prop :=
  B ≤ b ∧ B ≤ w.heap.size ∧ ∃ q v, (q = none ∨ q = some ⟨b, 0, none⟩) ∧ w.heap[b]? = some (.cells #[.pointer q, v] 63 (0, 0)) ∧ OwB w B v l

/-- The block of a row of bytes is no builder's. -/
theorem OwB.ne {w : World} {B b : Nat} {v : Value} {l : List Nat} {x y : Value} (h : OwB w B v l) (hb : w.heap[b]? = some (.cells #[x, y] 63 (0, 0))) : some b ≠ v.ownBlock := fun e => by
  obtain ⟨-, cs, fr, h2⟩ := owns_block' h e.symm
  rw [hb] at h2
  cases h2

theorem OwB.set {w : World} {B b i : Nat} {v u : Value} {l : List Nat} {x y : Value} (h : OwB w B v l) (hb : w.heap[b]? = some (.cells #[x, y] 63 (0, 0))) : OwB (w.setCell ⟨b, i, none⟩ u) B v l := by
  have hne := h.ne hb
  obtain ⟨h1, h2⟩ := h
  refine ⟨h1, ?_⟩
  rcases h2 with h2 | ⟨g, cap, cur, rfl, hg, hh, r⟩
  · exact .inl h2
  · exact .inr ⟨g, cap, cur, rfl, hg, by rw [heap_setCell_other _ _ _ _ (by show g ≠ b; intro e; exact hne (by rw [e]; rfl))]; exact hh, r⟩

theorem KeptU.set {B b : Nat} {w w' : World} (h : KeptU B (· = b) w w') (i : Nat) (u : Value) : KeptU B (· = b) w (w'.setCell ⟨b, i, none⟩ u) :=
  ⟨h.os, h.tape, h.output, by simpa using h.size, fun k hk hX hc => by rw [heap_setCell_other _ _ _ _ (by exact hX)]; exact h.block k hk hX hc⟩

/-- Behind copyCheck the builder is a used one. -/
theorem check_any (B b : Nat) (l : List Nat) (w : World) (h : Bd B b l w) :
    Calls Tryd.prog 62 #[.pointer (some ⟨b, 0, none⟩)] w fun e w' => e = .returned (.tuple #[]) ∧ ∃ v, w'.heap[b]? = some (.cells #[.pointer (some ⟨b, 0, none⟩), v] 63 (0, 0)) ∧ OwB w' B v l ∧ KeptU B (· = b) w w' := by
  obtain ⟨hB, hBw, q, v, hq, hbk, ho⟩ := h
  rcases hq with rfl | rfl
  · refine (check_fresh b w (cell_of_row w b 0 _ _ _ hbk) (by simp [World.shape?, hbk]) (frozen_of_row w b 0 _ _ hbk)).mono ?_
    rintro e w' ⟨rfl, rfl⟩
    refine ⟨rfl, v, ?_, ho.set hbk, (KeptU.refl _ _ _).set _ _⟩
    rw [heap_setCell_same w b 0 _ _ _ hbk]; rfl
  · refine (check_used b w (cell_of_row w b 0 _ _ _ hbk)).mono ?_
    rintro e w' ⟨rfl, rfl⟩
    exact ⟨rfl, v, hbk, ho, KeptU.refl _ _ _⟩

set_option maxHeartbeats 2000000 in
set_option maxRecDepth 100000 in
theorem wByte_any (B b : Nat) (l : List Nat) (c : Nat) (w : World) (h : Bd B b l w) (hl : l.length ≤ 1099511627776) :
    Calls Tryd.prog 39 #[.pointer (some ⟨b, 0, none⟩), .int .u8 c] w fun e w' => e = .returned .nilIface ∧ Bd B b (l ++ [c]) w' ∧ KeptU B (· = b) w w' := by
  have HC := hid (check_any B b l w h)
  obtain ⟨hB, hBw, -⟩ := h
  go_enter Tryd.func39, Tryd.ntmps39
  go_wp2_with fail
  refine Calls.mono HC.out ?_
  rintro e w1 ⟨rfl, v, hbk, ho, hk⟩
  have hlt := lt_of_block hbk
  have c1 : w1.cell? ⟨b, 1, none⟩ = some v := cell_of_row w1 b 1 _ _ _ hbk
  have hB1 : B ≤ w1.heap.size := by omega
  have HBK := hid hbk
  have HO := hid ho
  have HK := hid hk
  clear hbk ho hk
  go_wp2_with (at_builtin; refine wpList_appB _ rfl _ _ rfl B _ l c rfl (HO.out.alloc _) w1.heap.size rfl (cellNew _ _ _ _ rfl) hl (by simp; omega) ?_)
  intro v2 w2 ho2 hg2
  have hk2 : KeptU B (· = b) w1 w2 := ((KeptU.refl B _ w1).alloc _).grown hg2 (HO.out.alloc _)
  have hb2 : w2.heap[b]? = some (.cells #[.pointer (some ⟨b, 0, none⟩), v] 63 (0, 0)) := by
    rw [hg2.block b (by simp; omega) (HO.out.ne HBK.out), Below.heap_alloc _ _ _ hlt]
    exact HBK.out
  have d1 : w2.cell? ⟨b, 1, none⟩ = some v := cell_of_row w2 b 1 _ _ _ hb2
  have f1 : w2.frozen? ⟨b, 1, none⟩ = false := frozen_of_row w2 b 1 _ _ hb2
  obtain ⟨a2, k2, rfl, -, -⟩ := ho2.shape
  have HO2 := hid ho2
  have HB2 := hid hb2
  have HK2 := hid (HK.out.trans hk2)
  clear ho2 hb2 hk2 hg2
  generalize hn : (l ++ [c]).length = n2 at *
  have HN := hid hn
  clear hn
  go_wp2_with fail
  go_ret
  refine ⟨rfl, ⟨hB, by have := HK2.out.size; simp; omega, _, _, .inr rfl, ?_, OwB.set HO2.out HB2.out⟩, HK2.out.set _ _⟩
  rw [heap_setCell_same w2 b 1 _ _ _ HB2.out]; rfl

set_option maxHeartbeats 2000000 in
set_option maxRecDepth 100000 in
theorem wStr_any (B b : Nat) (l : List Nat) (s : ByteArray) (w : World) (h : Bd B b l w) (hl : l.length + s.size ≤ 1099511627776) :
    Calls Tryd.prog 38 #[.pointer (some ⟨b, 0, none⟩), .string s] w fun e w' => e = .returned (.tuple #[.int .i64 s.size, .nilIface]) ∧ Bd B b (l ++ bl s) w' ∧ KeptU B (· = b) w w' := by
  have HC := hid (check_any B b l w h)
  obtain ⟨hB, hBw, -⟩ := h
  go_enter Tryd.func38, Tryd.ntmps38
  go_wp2_with fail
  refine Calls.mono HC.out ?_
  rintro e w1 ⟨rfl, v, hbk, ho, hk⟩
  have hlt := lt_of_block hbk
  have c1 : w1.cell? ⟨b, 1, none⟩ = some v := cell_of_row w1 b 1 _ _ _ hbk
  have hB1 : B ≤ w1.heap.size := by omega
  have HBK := hid hbk
  have HO := hid ho
  have HK := hid hk
  clear hbk ho hk
  go_wp2_with (at_builtin; refine wpList_appS _ rfl _ _ rfl B _ l s rfl HO.out rfl hl hB1 ?_)
  intro v2 w2 ho2 hg2
  have hk2 : KeptU B (· = b) w1 w2 := (KeptU.refl B _ w1).grown hg2 HO.out
  have hb2 : w2.heap[b]? = some (.cells #[.pointer (some ⟨b, 0, none⟩), v] 63 (0, 0)) := by
    rw [hg2.block b hlt (HO.out.ne HBK.out)]
    exact HBK.out
  have d1 : w2.cell? ⟨b, 1, none⟩ = some v := cell_of_row w2 b 1 _ _ _ hb2
  have f1 : w2.frozen? ⟨b, 1, none⟩ = false := frozen_of_row w2 b 1 _ _ hb2
  obtain ⟨a2, k2, rfl, -, -⟩ := ho2.shape
  have HO2 := hid ho2
  have HB2 := hid hb2
  have HK2 := hid (HK.out.trans hk2)
  clear ho2 hb2 hk2 hg2
  generalize hn : (l ++ bl s).length = n2 at *
  have HN := hid hn
  clear hn
  go_wp2_with fail
  refine bodyPost_ret (v := .tuple #[.int .i64 s.size, .nilIface]) (by simp [results, Tryd.results38, go_sem]) rfl ⟨rfl, ⟨hB, by have := HK2.out.size; simp; omega, _, _, .inr rfl, ?_, OwB.set HO2.out HB2.out⟩, HK2.out.set _ _⟩
  rw [heap_setCell_same w2 b 1 _ _ _ HB2.out]; rfl

theorem Bd.later {B b : Nat} {l : List Nat} {w w' : World} (h : Bd B b l w) (hb : Below w.heap.size w w') : Bd B b l w' := by
  obtain ⟨h1, h2, q, v, hq, hbk, ho⟩ := h
  exact ⟨h1, Nat.le_trans h2 hb.size, q, v, hq, by rw [hb.block b (lt_of_block hbk)]; exact hbk, ho.later hb⟩

end Go.Proofs.YteenmffhbgpahaaDoor.Bu
