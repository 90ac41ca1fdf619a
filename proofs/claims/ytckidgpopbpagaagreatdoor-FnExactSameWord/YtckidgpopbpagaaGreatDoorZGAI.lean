/- Several texts in one. -/
import Derived.Test.YtckidgpopbpagaaGreatDoorZGAE
import Derived.Test.YtckidgpopbpagaaGreatDoorRX
import Derived.Test.YtckidgpopbpagaaGreatDoorZGAF
import Derived.Test.YtckidgpopbpagaaGreatDoorZGAB
import Derived.Test.YtckidgpopbpagaaGreatDoorZGAH
import Derived.Test.YtckidgpopbpagaaGreatDoorZGAC
import Derived.Test.YtckidgpopbpagaaGreatDoorZGAD

/- copyBits: the copy is an owned row. -/
namespace Go.Proofs.YtckidgpopbpagaaGreatDoor
set_option linter.unusedVariables false
set_option linter.unusedSimpArgs false
open Go.RowKit

theorem oww_low {w : World} {B B' : Nat} {v : Value} {l : List Nat} (h : OwW w B v l) (hB : B' ≤ B) : OwW w B' v l := by
  obtain ⟨h1, h2⟩ := h
  refine ⟨h1, ?_⟩
  rcases h2 with h2 | ⟨g, cap, cur, rfl, hg, hh, r⟩
  · exact .inl h2
  · exact .inr ⟨g, cap, cur, rfl, by omega, hh, r⟩
set_option maxHeartbeats 4000000 in
set_option maxRecDepth 100000 in
theorem copyO (bw : Int) (wa : Option Addr) (c n : Nat) (ws : List Nat) (w : World) (hr : Rd w wa ws) (hn : ws.length = n) (hw0 : wa = none → c = 0) :
    Calls Tryz.prog 43 #[.agg #[.int .i64 bw, .slice wa n c]] w fun e w' => ∃ a2 c2, e = .returned (.agg #[.int .i64 bw, .slice a2 n c2]) ∧ OwW w' w.heap.size (.slice a2 n c2) ws ∧ Below w.heap.size w w' := by
  have hb2 : Below w.heap.size w ((w.alloc (Obj.cells #[Value.int .i64 bw, Value.slice wa n c] 60)).alloc (Obj.cells #[Value.int .i64 0, Value.slice none 0 0] 60)) := ((Below.refl _ _).alloc (Nat.le_refl _) _).alloc (by simp) _
  have hr2 := hr.later hb2
  have XP := kide (Bz.later (Bz.new w #[Value.int .i64 bw, Value.slice wa n c] 60) ((Below.refl _ _).alloc (Nat.le_refl _) (Obj.cells #[Value.int .i64 0, Value.slice none 0 0] 60)))
  have XR : Hid (Bz ((w.alloc (Obj.cells #[Value.int .i64 bw, Value.slice wa n c] 60)).alloc (Obj.cells #[Value.int .i64 0, Value.slice none 0 0] 60)) (w.heap.size + 1) #[Value.int .i64 0, Value.slice none 0 0] 60) := by
    have h9 := Bz.new (w.alloc (Obj.cells #[Value.int .i64 bw, Value.slice wa n c] 60)) #[Value.int .i64 0, Value.slice none 0 0] 60
    rw [show (w.alloc (Obj.cells #[Value.int .i64 bw, Value.slice wa n c] 60)).heap.size = w.heap.size + 1 by simp] at h9
    exact h9
  have hlW : Hid (w.heap.size + 2 ≤ ((w.alloc (Obj.cells #[Value.int .i64 bw, Value.slice wa n c] 60)).alloc (Obj.cells #[Value.int .i64 0, Value.slice none 0 0] 60)).heap.size) := by show _ ≤ _; simp
  have hl := hr2.1
  have HC := kide (fun u (hu : Below w.heap.size w u) => hr.later hu)
  have HN := kide hn
  have BW := kide hb2
  clear hr hr2 hb2
  go_enter Tryz.func43, Tryz.ntmps43
  go_wp2_with fail
  generalize ((w.alloc (Obj.cells #[Value.int .i64 bw, Value.slice wa n c] 60)).alloc (Obj.cells #[Value.int .i64 0, Value.slice none 0 0] 60)) = W at *
  obtain ⟨b0, hb0⟩ : ∃ b0, w.heap.size = b0 := ⟨_, rfl⟩
  rw [hb0] at XP XR hlW
  simp only [hb0]
  have HB0 := kide hb0
  clear hb0
  refine wp_region_x (SA := fun _ => False) (SB := fun uu => uu.cell? ⟨b0, 0, none⟩ = some (Value.int .i64 bw) ∧ uu.cell? ⟨b0, 1, none⟩ = some (Value.slice wa n c)) (k := 999) (by kernel_rfl) ?_
  have hbd : Below W.heap.size W W.drew := (Below.refl _ _).drew
  have XP0 := kide (XP.out.later hbd)
  have XR0 := kide (XR.out.later hbd)
  have hu0 := kide hbd
  clear hbd
  generalize W.drew = u0 at *
  have c0_0 : u0.cell? ⟨b0, 0, none⟩ = some (Value.int .i64 bw) := XP0.out.cell 0
  have c1_0 : u0.cell? ⟨b0, 1, none⟩ = some (Value.slice wa n c) := XP0.out.cell 1
  have hs0 : Hid ((fun uu => uu.cell? ⟨b0, 0, none⟩ = some (Value.int .i64 bw) ∧ uu.cell? ⟨b0, 1, none⟩ = some (Value.slice wa n c)) u0) := ⟨c0_0, c1_0⟩
  try go_simp
  refine wpAnyX_both (T := (fun _ => True)) (i := 0) (v := Value.pointer (some ⟨b0, 0, none⟩)) rfl (by kernel_rfl) (by kernel_rfl) (by kernel_rfl) (fun _ _ _ h => by first | exact h | exact h.elim) (by decide) (fun _ _ => trivial) (fun _ _ => trivial) (Sx.behind (by kernel_rfl) hs0.out) (Or.inl ⟨by rfl, fun uu hu => by go_simp⟩) ?_
  try go_simp
  refine wpAnyX_both (T := (fun uu => uu.cell? ⟨b0, 0, none⟩ = some (Value.int .i64 bw) ∧ uu.cell? ⟨b0, 1, none⟩ = some (Value.slice wa n c))) (i := 1) (v := Value.int .i64 bw) rfl (by kernel_rfl) (by kernel_rfl) (by kernel_rfl) (fun _ _ _ h => by first | exact h | exact h.elim) (by decide) (fun _ h => h.elim) (fun _ h => h) (Sx.behind (by kernel_rfl) hs0.out) (Or.inl ⟨by rfl, fun uu hu => by obtain ⟨e0, e1⟩ := hu; go_simp⟩) ?_
  try go_simp
  refine wpAnyX_both (T := (fun _ => True)) (i := 2) (v := Value.pointer (some ⟨b0, 1, none⟩)) rfl (by kernel_rfl) (by kernel_rfl) (by kernel_rfl) (fun _ _ _ h => by first | exact h | exact h.elim) (by decide) (fun _ _ => trivial) (fun _ _ => trivial) (Sx.behind (by kernel_rfl) hs0.out) (Or.inl ⟨by rfl, fun uu hu => by go_simp⟩) ?_
  try go_simp
  refine wpAnyX_both (T := (fun uu => uu.cell? ⟨b0, 0, none⟩ = some (Value.int .i64 bw) ∧ uu.cell? ⟨b0, 1, none⟩ = some (Value.slice wa n c))) (i := 3) (v := Value.slice wa n c) rfl (by kernel_rfl) (by kernel_rfl) (by kernel_rfl) (fun _ _ _ h => by first | exact h | exact h.elim) (by decide) (fun _ h => h.elim) (fun _ h => h) (Sx.behind (by kernel_rfl) hs0.out) (Or.inl ⟨by rfl, fun uu hu => by obtain ⟨e0, e1⟩ := hu; go_simp⟩) ?_
  try go_simp
  refine wpAnyX_ready (rs := [4]) (by kernel_rfl) (by simp) (AllX.cons rfl (fun K hK => ?_) AllX.nil)
  refine step_appWr _ rfl _ _ rfl W.heap.size (.slice none 0 0) [] ws (by first | rfl | simp [Act.eval]) (OwW.nils _ _) wa c (by rw [HN.out]; first | rfl | simp [Act.eval]) hw0 (HC.out _ (BW.out.trans (hu0.out.mono BW.out.size))) (by simp; omega) hu0.out.size ?_
  intro v5 u1 how hgr
  obtain ⟨a5, c5, rfl, hn5⟩ := how.shape
  have hbg : Below W.heap.size u0 u1 := Below.grown (Below.refl _ _) hgr hu0.out.size (fun j hj => by cases hj)
  have NN1 := kide how
  have XP1 : Hid (Bz u1 b0 #[Value.int .i64 bw, Value.slice wa n c] 60) := (hbg.block b0 (by have := hlW.out; omega)).trans XP0.out
  have XR1 : Hid (Bz u1 (b0 + 1) #[Value.int .i64 0, Value.slice none 0 0] 60) := (hbg.block (b0 + 1) (by have := hlW.out; omega)).trans XR0.out
  have hu1 := kide (hu0.out.trans hbg)
  rw [List.nil_append, HN.out]
  rw [List.nil_append, HN.out] at NN1
  clear how hgr hbg hn5
  have c0_1 : u1.cell? ⟨b0, 0, none⟩ = some (Value.int .i64 bw) := XP1.out.cell 0
  have c1_1 : u1.cell? ⟨b0, 1, none⟩ = some (Value.slice wa n c) := XP1.out.cell 1
  have hs1 : Hid ((fun uu => uu.cell? ⟨b0, 0, none⟩ = some (Value.int .i64 bw) ∧ uu.cell? ⟨b0, 1, none⟩ = some (Value.slice wa n c)) u1) := ⟨c0_1, c1_1⟩
  refine hK _ _ (Sx.behind (by kernel_rfl) hs1.out) ?_
  clear hK K
  try go_simp
  refine wpAnyX_both (T := (fun _ => True)) (i := 5) (v := Value.agg #[Value.int .i64 bw, Value.slice a5 n c5]) rfl (by kernel_rfl) (by kernel_rfl) (by kernel_rfl) (fun _ _ _ h => by first | exact h | exact h.elim) (by decide) (fun _ _ => trivial) (fun _ _ => trivial) (Sx.behind (by kernel_rfl) hs1.out) (Or.inl ⟨by rfl, fun uu hu => by go_simp⟩) ?_
  try go_simp
  refine wpAnyX_ready (rs := [6]) (by kernel_rfl) (by simp) (AllX.cons rfl (fun K hK => ?_) AllX.nil)
  have e0 : u1.cell? ⟨b0 + 1, 0, none⟩ = some (Value.int .i64 0) := XR1.out.cell 0
  have e1 : u1.cell? ⟨b0 + 1, 1, none⟩ = some (Value.slice none 0 0) := XR1.out.cell 1
  have f0 := XR1.out.froz 0
  have f1 := XR1.out.froz 1
  go_simp
  have XR2 : Hid (Bz ((u1.setCell ⟨b0 + 1, 0, none⟩ (Value.int .i64 bw)).setCell ⟨b0 + 1, 1, none⟩ (Value.slice a5 n c5)) (b0 + 1) #[Value.int .i64 bw, Value.slice a5 n c5] 60) := (XR1.out.set 0 _).set 1 _
  have XP2 : Hid (Bz ((u1.setCell ⟨b0 + 1, 0, none⟩ (Value.int .i64 bw)).setCell ⟨b0 + 1, 1, none⟩ (Value.slice a5 n c5)) b0 #[Value.int .i64 bw, Value.slice wa n c] 60) := (XP1.out.other (by omega) 0 _).other (by omega) 1 _
  have NN2 : Hid (OwW ((u1.setCell ⟨b0 + 1, 0, none⟩ (Value.int .i64 bw)).setCell ⟨b0 + 1, 1, none⟩ (Value.slice a5 n c5)) W.heap.size (.slice a5 n c5) ws) := oww_set (i := 1) (oww_set (i := 0) NN1.out XR1.out (by decide) _) (XR1.out.set 0 (Value.int .i64 bw)) (by decide) _
  have BB2 : Hid (Below w.heap.size w ((u1.setCell ⟨b0 + 1, 0, none⟩ (Value.int .i64 bw)).setCell ⟨b0 + 1, 1, none⟩ (Value.slice a5 n c5))) := ((BW.out.trans (hu1.out.mono BW.out.size)).setCell (by rw [HB0.out]; exact Nat.le_succ _) _).setCell (by rw [HB0.out]; exact Nat.le_succ _) _
  clear e0 e1 f0 f1
  generalize (u1.setCell ⟨b0 + 1, 0, none⟩ (Value.int .i64 bw)).setCell ⟨b0 + 1, 1, none⟩ (Value.slice a5 n c5) = u2 at *
  have c0_2 : u2.cell? ⟨b0, 0, none⟩ = some (Value.int .i64 bw) := XP2.out.cell 0
  have c1_2 : u2.cell? ⟨b0, 1, none⟩ = some (Value.slice wa n c) := XP2.out.cell 1
  have hs2 : Hid ((fun uu => uu.cell? ⟨b0, 0, none⟩ = some (Value.int .i64 bw) ∧ uu.cell? ⟨b0, 1, none⟩ = some (Value.slice wa n c)) u2) := ⟨c0_2, c1_2⟩
  refine hK _ _ (Sx.behind (by kernel_rfl) hs2.out) ?_
  clear hK K
  try go_simp
  refine wpAnyX_done (by kernel_rfl) ?_ _
  go_wp2_with fail
  have y0 : u2.cell? ⟨b0 + 1, 0, none⟩ = some (Value.int .i64 bw) := XR2.out.cell 0
  have y1 : u2.cell? ⟨b0 + 1, 1, none⟩ = some (Value.slice a5 n c5) := XR2.out.cell 1
  exact bodyPost_ret (v := Value.agg #[Value.int .i64 bw, Value.slice a5 n c5]) (by simp [results, Tryz.results43, go_sem, y0, y1]) rfl ⟨a5, c5, rfl, oww_low NN2.out (by have := hlW.out; have := HB0.out; omega), BB2.out⟩

end Go.Proofs.YtckidgpopbpagaaGreatDoor

/- Rows of segments of one's own. -/
namespace Go.Proofs.YtckidgpopbpagaaGreatDoor
set_option linter.unusedVariables false
set_option linter.unusedSimpArgs false
open Go.RowKit

def sgc : List Sg → List Value
  | [] => []
  | x :: t => .int .i64 x.ct.v :: .int .i64 x.ct.lo :: .int .i64 x.ct.wd :: .int .i64 x.ct.bw :: .slice x.a x.ct.ws.length x.c :: sgc t
theorem sgc_len (l : List Sg) : (sgc l).length = l.length * 5 := by
  induction l with
  | nil => rfl
  | cons x t ih => simp [sgc, ih]; omega
theorem sgc_append (l m : List Sg) : sgc (l ++ m) = sgc l ++ sgc m := by
  induction l with
  | nil => rfl
  | cons x t ih => simp [sgc, ih]

theorem Tryz.infoSeg9 : (Tryz.prog.info? 67).map (fun i => (i.zero, i.size, i.bytes)) = some (some (.agg #[.int .i64 0, .int .i64 0, .int .i64 0, .int .i64 0, .slice none 0 0]), 5, 56) := by kernel_rfl

/-- An owned row of segments. -/
def OS5 (w : World) (B : Nat) (v : Value) (l : List Sg) : Prop := w.ownsRow B 67 5 v l.length (sgc l)

theorem OS5.later {w w' : World} {B : Nat} {v : Value} {l : List Sg} (h : OS5 w B v l) (hb : Below w.heap.size w w') : OS5 w' B v l := World.ownsRow.kept (row := none) h ⟨hb.os, hb.tape, hb.output, hb.size, fun k hk _ => hb.block k hk⟩ (by
  cases h' : v.ownBlock with
  | none => exact .inl rfl
  | some k => exact .inr (by simp))
theorem OS5.lt {w : World} {B : Nat} {v : Value} {l : List Sg} (h : OS5 w B v l) {b : Nat} (hb : v.ownBlock = some b) : B ≤ b ∧ b < w.heap.size := by
  rcases h.2 with ⟨rfl, -⟩ | ⟨g, cap, cur, rfl, hg, hh, -⟩
  · cases hb
  · cases hb
    exact ⟨hg, lt_of_block hh⟩
theorem OS5.typed {w : World} {B : Nat} {v : Value} {l : List Sg} (h : OS5 w B v l) {b : Nat} (hb : v.ownBlock = some b) : ∃ cur, w.heap[b]? = some (.cells cur 67 (0, 0)) := by
  rcases h.2 with ⟨rfl, -⟩ | ⟨g, cap, cur, rfl, hg, hh, -⟩
  · cases hb
  · cases hb
    exact ⟨cur, hh⟩
theorem OS5.nil (w : World) (B : Nat) : OS5 w B (.slice none 0 0) [] := ⟨rfl, .inl ⟨rfl, rfl⟩⟩
theorem OS5.move {w w' : World} {B : Nat} {v : Value} {l : List Sg} (h : OS5 w B v l) (hk : ∀ b, v.ownBlock = some b → w'.heap[b]? = w.heap[b]?) : OS5 w' B v l := by
  refine ⟨h.1, ?_⟩
  rcases h.2 with h0 | ⟨g, cap, cur, rfl, hg, hh, r⟩
  · exact .inl h0
  · exact .inr ⟨g, cap, cur, rfl, hg, (hk g rfl).trans hh, r⟩

theorem OS5.form {w : World} {B : Nat} {v : Value} {l : List Sg} (h : OS5 w B v l) : ∃ a c, v = .slice a l.length c := by
  rcases h.2 with ⟨e, h0⟩ | ⟨g, cap, cur, e, -⟩
  · exact ⟨none, 0, by rw [e, h0]⟩
  · exact ⟨_, _, e⟩

theorem OS5.empty (w : World) (B : Nat) (h : B ≤ w.heap.size) : OS5 (w.alloc (.cells #[] 67)) B (.slice (some ⟨w.heap.size, 0, Option.none⟩) 0 0) [] := World.ownsRow_made w #[] 0 h (Nat.zero_le _) (by simp)
/-- 'append(list, x)' at a step of a region that draws its order; and in a row of operations. -/
theorem step_appS5 (w : World) {ops : Array Oper} {o : Oper} {a : Act} {K : Act → World → Prop} {Q : Exit → Act → World → Prop} {E : Prop} (hgd : o.guard = none) (s x : Operand)
    (ho : o.op = .call { callee := .builtin .append, args := #[s, x], argTypes := #[42, 42] })
    (B : Nat) (v : Value) (l : List Sg) (y : Sg) (hs : a.eval s = v) (hown : OS5 w B v l) (gx c : Nat) (hx : a.eval x = .slice (some ⟨gx, 0, none⟩) 1 c)
    (h0 : w.cell? ⟨gx, 0, none⟩ = some (.int .i64 y.ct.v)) (h1 : w.cell? ⟨gx, 1, none⟩ = some (.int .i64 y.ct.lo)) (h2 : w.cell? ⟨gx, 2, none⟩ = some (.int .i64 y.ct.wd)) (h3 : w.cell? ⟨gx, 3, none⟩ = some (.int .i64 y.ct.bw)) (h4 : w.cell? ⟨gx, 4, none⟩ = some (.slice y.a y.ct.ws.length y.c)) (hl : l.length ≤ 1073741824) (hB : B ≤ w.heap.size)
    (h : ∀ g cap w', OS5 w' B (.slice (some ⟨g, 0, none⟩) (l.length + 1) cap) (l ++ [y]) → w.grownBy w' v.ownBlock → K (a.put o.dst (.slice (some ⟨g, 0, none⟩) (l.length + 1) cap)) w') :
    if Region.wanted o (yielded ops a.tmps) = true then Oper.wp Tryz.prog o a w K Q else E := by
  obtain ⟨i0, hi, hz0, hz1, hz2⟩ := info_parts Tryz.infoSeg9
  refine step_append_lies w hgd s x 42 ho B 67 i0 _ 5 56 Tryz.underlying42 hi hz0 hz1 hz2 rfl (by decide) v l.length (sgc l) hs hown ⟨gx, 0, none⟩ 1 c (sgc [y]) hx rfl ?_ ?_ (by decide) ?_ ?_ hB _ rfl ?_
  · intro j u hj
    rw [Addr.add_lit]
    match j, hj with
    | 0, hj => simp [sgc] at hj; subst hj; exact h0
    | 1, hj => simp [sgc] at hj; subst hj; exact h1
    | 2, hj => simp [sgc] at hj; subst hj; exact h2
    | 3, hj => simp [sgc] at hj; subst hj; exact h3
    | 4, hj => simp [sgc] at hj; subst hj; exact h4
    | j + 5, hj => simp [sgc] at hj
  · intro u hu
    simp [sgc] at hu
    rcases hu with rfl | rfl | rfl | rfl | rfl <;> rfl
  · unfold maxLen; omega
  · omega
  · intro g cap w' h1 h2 _ _
    refine h g cap w' ?_ h2
    unfold OS5
    rw [sgc_append, List.length_append]
    exact h1

theorem wpList_appS5 {w : World} {ops : Array Oper} {rest : List Oper} {o : Oper} {a : Act} {Q : Exit → Act → World → Prop} (hgd : o.guard = none) (s x : Operand)
    (ho : o.op = .call { callee := .builtin .append, args := #[s, x], argTypes := #[42, 42] })
    (B : Nat) (v : Value) (l : List Sg) (y : Sg) (hs : a.eval s = v) (hown : OS5 w B v l) (gx c : Nat) (hx : a.eval x = .slice (some ⟨gx, 0, none⟩) 1 c)
    (h0 : w.cell? ⟨gx, 0, none⟩ = some (.int .i64 y.ct.v)) (h1 : w.cell? ⟨gx, 1, none⟩ = some (.int .i64 y.ct.lo)) (h2 : w.cell? ⟨gx, 2, none⟩ = some (.int .i64 y.ct.wd)) (h3 : w.cell? ⟨gx, 3, none⟩ = some (.int .i64 y.ct.bw)) (h4 : w.cell? ⟨gx, 4, none⟩ = some (.slice y.a y.ct.ws.length y.c)) (hl : l.length ≤ 1073741824) (hB : B ≤ w.heap.size)
    (h : ∀ g cap w', OS5 w' B (.slice (some ⟨g, 0, none⟩) (l.length + 1) cap) (l ++ [y]) → w.grownBy w' v.ownBlock → wpList Tryz.prog ops Q rest (a.put o.dst (.slice (some ⟨g, 0, none⟩) (l.length + 1) cap)) w') : wpList Tryz.prog ops Q (o :: rest) a w := by
  obtain ⟨i0, hi, hz0, hz1, hz2⟩ := info_parts Tryz.infoSeg9
  refine wpList_append_lies w hgd s x 42 ho B 67 i0 _ 5 56 Tryz.underlying42 hi hz0 hz1 hz2 rfl (by decide) v l.length (sgc l) hs hown ⟨gx, 0, none⟩ 1 c (sgc [y]) hx rfl ?_ ?_ (by decide) ?_ ?_ hB _ rfl ?_
  · intro j u hj
    rw [Addr.add_lit]
    match j, hj with
    | 0, hj => simp [sgc] at hj; subst hj; exact h0
    | 1, hj => simp [sgc] at hj; subst hj; exact h1
    | 2, hj => simp [sgc] at hj; subst hj; exact h2
    | 3, hj => simp [sgc] at hj; subst hj; exact h3
    | 4, hj => simp [sgc] at hj; subst hj; exact h4
    | j + 5, hj => simp [sgc] at hj
  · intro u hu
    simp [sgc] at hu
    rcases hu with rfl | rfl | rfl | rfl | rfl <;> rfl
  · unfold maxLen; omega
  · omega
  · intro g cap w' h1 h2 _ _
    refine h g cap w' ?_ h2
    unfold OS5
    rw [sgc_append, List.length_append]
    exact h1

end Go.Proofs.YtckidgpopbpagaaGreatDoor

/- The form of told bits: the given l5Form. -/
namespace Go.Proofs.YtckidgpopbpagaaGreatDoor
set_option linter.unusedVariables false
set_option linter.unusedSimpArgs false
open Go.RowKit

theorem take_step {ps : List Ib} {i k : Nat} {q : Ib} (hik : i ≤ k) (hq : ps[k]? = some q) : (ps.drop i).take (k + 1 - i) = (ps.drop i).take (k - i) ++ [q] := by
  rw [show k + 1 - i = (k - i) + 1 by omega, List.take_add_one, List.getElem?_drop, show i + (k - i) = k by omega, hq]
  rfl

/-- Segments of one's own, their words too. -/
def Ss (w : World) (B : Nat) (v : Value) (l : List Sg) : Prop := OS5 w B v l ∧ ∀ x ∈ l, Nw w B x.a x.ct.ws
theorem Ss.later {w w' : World} {B : Nat} {v : Value} {l : List Sg} (h : Ss w B v l) (hb : Below w.heap.size w w') : Ss w' B v l := ⟨h.1.later hb, fun x hx => (h.2 x hx).later hb⟩

end Go.Proofs.YtckidgpopbpagaaGreatDoor

/- The given l3Form: has a node the fields that its op has? -/
namespace Go.Proofs.YtckidgpopbpagaaGreatDoor
set_option linter.unusedVariables false
set_option linter.unusedSimpArgs false
open Go.RowKit

theorem l3NoBits_any (bw : Int) (a : Option Addr) (n c : Nat) (w : World) (hn : n ≤ 1048576) :
    Calls Tryz.prog 78 #[.agg #[.int .i64 bw, .slice a n c]] w fun e w' => e = .returned (.bool (decide (bw = 0) && decide (n = 0))) ∧ Below w.heap.size w w' := by
  have hb0 : Below w.heap.size w (w.alloc (Obj.cells #[Value.int .i64 bw, Value.slice a n c] 60)) := (Below.refl _ _).alloc (Nat.le_refl _) _
  have B0 := kide hb0
  clear hb0
  by_cases h : bw = 0
  · subst h
    go_enter Tryz.func78, Tryz.ntmps78
    go_wp2_with fail
    go_ret
    exact ⟨ret_bool (by rw [Bool.eq_iff_iff]; simp), B0.out⟩
  · have e1 : (bw == 0) = false := by simp [h]
    have hR : (decide (bw = 0) && decide (n = 0)) = false := by simp [h]
    rw [hR]
    clear hR h
    go_enter Tryz.func78, Tryz.ntmps78
    go_wp2_with fail
    go_ret
    exact ⟨rfl, B0.out⟩

theorem l3One_any (op : Int) (w : World) :
    Calls Tryz.prog 79 #[.int .i64 op] w fun e w' => e = .returned (.bool (decide (4 ≤ op ∧ op ≤ 9))) ∧ w' = w := by
  have HL := kide (l1In_any op 4 9 w)
  generalize decide (4 ≤ op ∧ op ≤ 9) = V at *
  go_enter Tryz.func79, Tryz.ntmps79
  go_wp2_with fail
  refine Calls.mono HL.out ?_
  rintro e w' ⟨rfl, rfl⟩
  go_wp2_with fail
  go_ret
  exact ⟨rfl, rfl⟩

/-- The fields are those of the op. -/
def fieldR (n : Tc) : Bool := !(n.op != 1 && n.vr != 0 || n.op != 2 && !(decide (n.bw = 0) && decide (n.ws.length = 0)) || n.op != 4 && n.b != 0 || !decide (4 ≤ n.op ∧ n.op ≤ 9) && n.a != 0)

/-- .. and as many kids as it wants. -/
def manyR (nd : Nat) (n : Tc) : Bool :=
  if n.op = 1 then decide (n.ks.length = 0) && decide (0 ≤ n.vr ∧ n.vr ≤ (nd : Int) - 1)
  else if n.op = 2 then decide (n.ks.length = 0) && rightB n.bw n.ws
  else if n.op = 3 then decide (2 ≤ n.ks.length)
  else if 4 ≤ n.op ∧ n.op ≤ 9 then decide (n.ks.length = 1)
  else false

def kidsR (at' : Nat) (ks : List Int) : Bool := ks.all (fun k => decide (0 ≤ k ∧ k ≤ (at' : Int) - 1))

set_option maxHeartbeats 1000000 in
theorem l3Form_any (a : Option Addr) (nd c at' : Nat) (n : Tc) (wa ka : Option Addr) (wc kc : Nat) (w : World) (hw : Rd w wa n.ws) (hk : RdI w ka n.ks) (hat : at' ≤ 1048576) (hnd : nd ≤ 1048576) :
    Calls Tryz.prog 51 #[.slice a nd c, .agg #[.int .i64 n.op, .int .i64 n.vr, .int .i64 n.a, .int .i64 n.b, .int .i64 n.bw, .slice wa n.ws.length wc, .slice ka n.ks.length kc], .int .i64 (at' : Int)] w fun e w' => e = .returned (.bool (kidsR at' n.ks && fieldR n && manyR nd n)) ∧ Below w.heap.size w w' := by
  generalize hZ : (kidsR at' n.ks && fieldR n && manyR nd n) = Z
  have HZ := kide hZ
  clear hZ
  obtain ⟨op, vr, A, B, bw, ws, ks⟩ := n
  simp only [] at hw hk ⊢
  have hb0 : Below w.heap.size w (w.alloc (Obj.cells #[Value.int .i64 op, Value.int .i64 vr, Value.int .i64 A, Value.int .i64 B, Value.int .i64 bw, Value.slice wa ws.length wc, Value.slice ka ks.length kc] 62)) := (Below.refl _ _).alloc (Nat.le_refl _) _
  have HW := kide (fun u (hu : Below w.heap.size w u) => hw.later hu)
  have HK := kide (hk.later hb0)
  have hl := hk.1
  have HWL := kide hw.1
  have B0 := kide hb0
  clear hw hk hb0
  go_enter Tryz.func51, Tryz.ntmps51
  go_wp2_with fail
  have c0 : (w.alloc (Obj.cells #[Value.int .i64 op, Value.int .i64 vr, Value.int .i64 A, Value.int .i64 B, Value.int .i64 bw, Value.slice wa ws.length wc, Value.slice ka ks.length kc] 62)).cell? ⟨w.heap.size, 0, none⟩ = some (.int .i64 op) := by simp [go_sem]
  have c1 : (w.alloc (Obj.cells #[Value.int .i64 op, Value.int .i64 vr, Value.int .i64 A, Value.int .i64 B, Value.int .i64 bw, Value.slice wa ws.length wc, Value.slice ka ks.length kc] 62)).cell? ⟨w.heap.size, 1, none⟩ = some (.int .i64 vr) := by simp [go_sem]
  have c2 : (w.alloc (Obj.cells #[Value.int .i64 op, Value.int .i64 vr, Value.int .i64 A, Value.int .i64 B, Value.int .i64 bw, Value.slice wa ws.length wc, Value.slice ka ks.length kc] 62)).cell? ⟨w.heap.size, 2, none⟩ = some (.int .i64 A) := by simp [go_sem]
  have c3 : (w.alloc (Obj.cells #[Value.int .i64 op, Value.int .i64 vr, Value.int .i64 A, Value.int .i64 B, Value.int .i64 bw, Value.slice wa ws.length wc, Value.slice ka ks.length kc] 62)).cell? ⟨w.heap.size, 3, none⟩ = some (.int .i64 B) := by simp [go_sem]
  have c4 : (w.alloc (Obj.cells #[Value.int .i64 op, Value.int .i64 vr, Value.int .i64 A, Value.int .i64 B, Value.int .i64 bw, Value.slice wa ws.length wc, Value.slice ka ks.length kc] 62)).cell? ⟨w.heap.size, 4, none⟩ = some (.int .i64 bw) := by simp [go_sem]
  have c5 : (w.alloc (Obj.cells #[Value.int .i64 op, Value.int .i64 vr, Value.int .i64 A, Value.int .i64 B, Value.int .i64 bw, Value.slice wa ws.length wc, Value.slice ka ks.length kc] 62)).cell? ⟨w.heap.size, 5, none⟩ = some (.slice wa ws.length wc) := by simp [go_sem]
  have c6 : (w.alloc (Obj.cells #[Value.int .i64 op, Value.int .i64 vr, Value.int .i64 A, Value.int .i64 B, Value.int .i64 bw, Value.slice wa ws.length wc, Value.slice ka ks.length kc] 62)).cell? ⟨w.heap.size, 6, none⟩ = some (.slice ka ks.length kc) := by simp [go_sem]
  generalize (w.alloc (Obj.cells #[Value.int .i64 op, Value.int .i64 vr, Value.int .i64 A, Value.int .i64 B, Value.int .i64 bw, Value.slice wa ws.length wc, Value.slice ka ks.length kc] 62)) = w0 at *
  go_loopw [7] (fun i wr => ∃ k : Nat, k ≤ ks.length ∧ i = .int .i64 k ∧ kidsR at' (ks.take k) = true ∧ wr = w0) (fun i _ => ks.length - (intOf i).toNat)
  case atStart => exact ⟨0, Nat.zero_le _, rfl, by simp [kidsR], rfl⟩
  case round =>
    obtain ⟨k, hk, rfl, hkr, rfl⟩ := hrel
    have HKR := kide hkr
    clear hkr
    by_cases hlt : k < ks.length
    · obtain ⟨hl1, hin, h | ⟨b, o, rfl, hc⟩⟩ := HK.out
      · subst h; simp at hlt
      have g0 := hc k hlt
      have HIN := kide hin
      clear hin hc HK
      have hgk : ks[k]? = some (ks.getD k 0) := by simp [List.getD, hlt]
      have HGK := kide hgk
      clear hgk
      generalize ks.getD k 0 = y at *
      by_cases hy : 0 ≤ y ∧ y ≤ (at' : Int) - 1
      · have HL := kide (fun u => l1In_any y 0 ((at' : Int) - 1) u)
        rw [decide_eq_true hy] at HL
        go_wp2_with (go_at_call 53; refine Calls.mono (HL.out _) ?_; rintro e w1 ⟨rfl, rfl⟩)
        go_roundw
        case rel =>
          refine ⟨k + 1, by omega, by go_num, ?_, by first | rfl | trivial⟩
          rw [List.take_add_one, HGK.out, kidsR, List.all_append]
          have := HKR.out
          rw [kidsR] at this
          rw [this]
          simp
          omega
        case measure => simp [intOf]; omega
      · have HL := kide (fun u => l1In_any y 0 ((at' : Int) - 1) u)
        rw [decide_eq_false hy] at HL
        have HY := kide hy
        clear hy
        go_wp2_with (go_at_call 53; refine Calls.mono (HL.out _) ?_; rintro e w1 ⟨rfl, rfl⟩)
        go_ret
        refine ⟨ret_bool ?_, B0.out⟩
        have hf : kidsR at' ks = false := by
          rw [kidsR, List.all_eq_false]
          exact ⟨y, List.mem_of_getElem? HGK.out, by simpa using HY.out⟩
        have hZ := HZ.out
        simp only [hf, Bool.false_and] at hZ
        exact hZ
    · have e : k = ks.length := by omega
      subst e
      have hZ : (fieldR ⟨op, vr, A, B, bw, ws, ks⟩ && manyR nd ⟨op, vr, A, B, bw, ws, ks⟩) = Z := by
        have hK := HKR.out
        rw [List.take_length] at hK
        have h := HZ.out
        simp only [hK, Bool.true_and] at h
        exact h
      have HZ2 := kide hZ
      clear hZ HZ HKR hlt hk
      have hlw : w.heap.size < wr.heap.size := block_lt_of_cell c0
      have HNB := kide (fun u => l3NoBits_any bw wa ws.length wc u HWL.out)
      have HOK := kide (fun u hu => specOk_any bw wa wc ws u (HW.out u hu))
      have HLI := kide (fun u => l1In_any vr 0 ((nd : Int) - 1) u)
      obtain ⟨NV, hnv⟩ : ∃ v, v = (decide (bw = 0) && decide (ws.length = 0)) := ⟨_, rfl⟩
      obtain ⟨LV, hlv⟩ : ∃ v, v = decide (0 ≤ vr ∧ vr ≤ (nd : Int) - 1) := ⟨_, rfl⟩
      obtain ⟨OV, hov⟩ : ∃ v, v = rightB bw ws := ⟨_, rfl⟩
      rw [← hnv] at HNB
      rw [← hlv] at HLI
      rw [← hov] at HOK
      have HF := kide (And.intro hnv (And.intro hlv hov))
      clear hnv hlv hov
      rcases (show op = 1 ∨ op = 2 ∨ op = 3 ∨ op = 4 ∨ (5 ≤ op ∧ op ≤ 9) ∨ (op < 1 ∨ 9 < op) by omega) with rfl | rfl | rfl | rfl | ⟨g1, g2⟩ | g1
      · have HO1 := kide (fun u => l3One_any 1 u)
        rw [show decide ((4 : Int) ≤ 1 ∧ (1 : Int) ≤ 9) = false by decide] at HO1
        cases NV
        all_goals
          go_wp2_with (first
            | (go_at_call 78; refine Calls.mono (HNB.out _) ?_; rintro e wq ⟨rfl, hbq⟩; have k0 := kcell hbq w.heap.size 0 hlw; have k1 := kcell hbq w.heap.size 1 hlw; have k2 := kcell hbq w.heap.size 2 hlw; have k3 := kcell hbq w.heap.size 3 hlw; have k4 := kcell hbq w.heap.size 4 hlw; have k5 := kcell hbq w.heap.size 5 hlw; have k6 := kcell hbq w.heap.size 6 hlw; have BQ := kide (B0.out.trans (hbq.mono B0.out.size)); clear hbq)
            | (go_at_call 79; refine Calls.mono (HO1.out _) ?_; rintro e wx ⟨rfl, rfl⟩)
            | (go_at_call 53; refine Calls.mono (HLI.out _) ?_; rintro e wx ⟨rfl, rfl⟩)
            | (go_at_call 80; refine Calls.mono (HOK.out _ (by first | exact BQ.out | exact B0.out)) ?_; rintro e wx ⟨rfl, hbx⟩; have BX := kide (Below.trans (by first | exact BQ.out | exact B0.out) (hbx.mono (by first | exact BQ.out.size | exact B0.out.size))); clear hbx))
          all_goals go_ret
          all_goals refine ⟨ret_bool ?_, (by first | exact BX.out | exact BQ.out | exact B0.out)⟩
          all_goals (have h := HZ2.out; obtain ⟨f1, f2, f3⟩ := HF.out; simp only [fieldR, manyR] at h; rw [← f1] at h; try rw [← f2] at h
                     try rw [← f3] at h
                     clear f1 f2 f3 HZ2 HF HNB HOK HLI HO1 B0 HW HK HWL; rw [← h]; clear h; cases hB : (B != 0) <;> cases hA : (A != 0) <;> cases hV : (vr != 0) <;> simp_all <;> first | omega | (rw [Bool.eq_iff_iff]; simp; omega))
      · have HO1 := kide (fun u => l3One_any 2 u)
        rw [show decide ((4 : Int) ≤ 2 ∧ (2 : Int) ≤ 9) = false by decide] at HO1
        cases NV
        all_goals
          go_wp2_with (first
            | (go_at_call 78; refine Calls.mono (HNB.out _) ?_; rintro e wq ⟨rfl, hbq⟩; have k0 := kcell hbq w.heap.size 0 hlw; have k1 := kcell hbq w.heap.size 1 hlw; have k2 := kcell hbq w.heap.size 2 hlw; have k3 := kcell hbq w.heap.size 3 hlw; have k4 := kcell hbq w.heap.size 4 hlw; have k5 := kcell hbq w.heap.size 5 hlw; have k6 := kcell hbq w.heap.size 6 hlw; have BQ := kide (B0.out.trans (hbq.mono B0.out.size)); clear hbq)
            | (go_at_call 79; refine Calls.mono (HO1.out _) ?_; rintro e wx ⟨rfl, rfl⟩)
            | (go_at_call 53; refine Calls.mono (HLI.out _) ?_; rintro e wx ⟨rfl, rfl⟩)
            | (go_at_call 80; refine Calls.mono (HOK.out _ (by first | exact BQ.out | exact B0.out)) ?_; rintro e wx ⟨rfl, hbx⟩; have BX := kide (Below.trans (by first | exact BQ.out | exact B0.out) (hbx.mono (by first | exact BQ.out.size | exact B0.out.size))); clear hbx))
          all_goals go_ret
          all_goals refine ⟨ret_bool ?_, (by first | exact BX.out | exact BQ.out | exact B0.out)⟩
          all_goals (have h := HZ2.out; obtain ⟨f1, f2, f3⟩ := HF.out; simp only [fieldR, manyR] at h; rw [← f1] at h; try rw [← f2] at h
                     try rw [← f3] at h
                     clear f1 f2 f3 HZ2 HF HNB HOK HLI HO1 B0 HW HK HWL; rw [← h]; clear h; cases hB : (B != 0) <;> cases hA : (A != 0) <;> cases hV : (vr != 0) <;> simp_all <;> first | omega | (rw [Bool.eq_iff_iff]; simp; omega))
      · have HO1 := kide (fun u => l3One_any 3 u)
        rw [show decide ((4 : Int) ≤ 3 ∧ (3 : Int) ≤ 9) = false by decide] at HO1
        cases NV
        all_goals
          go_wp2_with (first
            | (go_at_call 78; refine Calls.mono (HNB.out _) ?_; rintro e wq ⟨rfl, hbq⟩; have k0 := kcell hbq w.heap.size 0 hlw; have k1 := kcell hbq w.heap.size 1 hlw; have k2 := kcell hbq w.heap.size 2 hlw; have k3 := kcell hbq w.heap.size 3 hlw; have k4 := kcell hbq w.heap.size 4 hlw; have k5 := kcell hbq w.heap.size 5 hlw; have k6 := kcell hbq w.heap.size 6 hlw; have BQ := kide (B0.out.trans (hbq.mono B0.out.size)); clear hbq)
            | (go_at_call 79; refine Calls.mono (HO1.out _) ?_; rintro e wx ⟨rfl, rfl⟩)
            | (go_at_call 53; refine Calls.mono (HLI.out _) ?_; rintro e wx ⟨rfl, rfl⟩)
            | (go_at_call 80; refine Calls.mono (HOK.out _ (by first | exact BQ.out | exact B0.out)) ?_; rintro e wx ⟨rfl, hbx⟩; have BX := kide (Below.trans (by first | exact BQ.out | exact B0.out) (hbx.mono (by first | exact BQ.out.size | exact B0.out.size))); clear hbx))
          all_goals go_ret
          all_goals refine ⟨ret_bool ?_, (by first | exact BX.out | exact BQ.out | exact B0.out)⟩
          all_goals (have h := HZ2.out; obtain ⟨f1, f2, f3⟩ := HF.out; simp only [fieldR, manyR] at h; rw [← f1] at h; try rw [← f2] at h
                     try rw [← f3] at h
                     clear f1 f2 f3 HZ2 HF HNB HOK HLI HO1 B0 HW HK HWL; rw [← h]; clear h; cases hB : (B != 0) <;> cases hA : (A != 0) <;> cases hV : (vr != 0) <;> simp_all <;> first | omega | (rw [Bool.eq_iff_iff]; simp; omega))
      · have HO1 := kide (fun u => l3One_any 4 u)
        rw [show decide ((4 : Int) ≤ 4 ∧ (4 : Int) ≤ 9) = true by decide] at HO1
        cases NV
        all_goals
          go_wp2_with (first
            | (go_at_call 78; refine Calls.mono (HNB.out _) ?_; rintro e wq ⟨rfl, hbq⟩; have k0 := kcell hbq w.heap.size 0 hlw; have k1 := kcell hbq w.heap.size 1 hlw; have k2 := kcell hbq w.heap.size 2 hlw; have k3 := kcell hbq w.heap.size 3 hlw; have k4 := kcell hbq w.heap.size 4 hlw; have k5 := kcell hbq w.heap.size 5 hlw; have k6 := kcell hbq w.heap.size 6 hlw; have BQ := kide (B0.out.trans (hbq.mono B0.out.size)); clear hbq)
            | (go_at_call 79; refine Calls.mono (HO1.out _) ?_; rintro e wx ⟨rfl, rfl⟩)
            | (go_at_call 53; refine Calls.mono (HLI.out _) ?_; rintro e wx ⟨rfl, rfl⟩)
            | (go_at_call 80; refine Calls.mono (HOK.out _ (by first | exact BQ.out | exact B0.out)) ?_; rintro e wx ⟨rfl, hbx⟩; have BX := kide (Below.trans (by first | exact BQ.out | exact B0.out) (hbx.mono (by first | exact BQ.out.size | exact B0.out.size))); clear hbx))
          all_goals go_ret
          all_goals refine ⟨ret_bool ?_, (by first | exact BX.out | exact BQ.out | exact B0.out)⟩
          all_goals (have h := HZ2.out; obtain ⟨f1, f2, f3⟩ := HF.out; simp only [fieldR, manyR] at h; rw [← f1] at h; try rw [← f2] at h
                     try rw [← f3] at h
                     clear f1 f2 f3 HZ2 HF HNB HOK HLI HO1 B0 HW HK HWL; rw [← h]; clear h; cases hB : (B != 0) <;> cases hA : (A != 0) <;> cases hV : (vr != 0) <;> simp_all <;> first | omega | (rw [Bool.eq_iff_iff]; simp; omega))
      · have HO1 := kide (fun u => l3One_any op u)
        rw [show decide ((4 : Int) ≤ op ∧ op ≤ 9) = true by simp; omega] at HO1
        have n1 : (op != 1) = true := by simp; omega
        have n2 : (op != 2) = true := by simp; omega
        have n4 : (op != 4) = true := by simp; omega
        have m1 : (op == 1) = false := by simp; omega
        have m2 : (op == 2) = false := by simp; omega
        have m3 : (op == 3) = false := by simp; omega
        cases NV
        all_goals
          go_wp2_with (first
            | (go_at_call 78; refine Calls.mono (HNB.out _) ?_; rintro e wq ⟨rfl, hbq⟩; have k0 := kcell hbq w.heap.size 0 hlw; have k1 := kcell hbq w.heap.size 1 hlw; have k2 := kcell hbq w.heap.size 2 hlw; have k3 := kcell hbq w.heap.size 3 hlw; have k4 := kcell hbq w.heap.size 4 hlw; have k5 := kcell hbq w.heap.size 5 hlw; have k6 := kcell hbq w.heap.size 6 hlw; have BQ := kide (B0.out.trans (hbq.mono B0.out.size)); clear hbq)
            | (go_at_call 79; refine Calls.mono (HO1.out _) ?_; rintro e wx ⟨rfl, rfl⟩)
            | (go_at_call 53; refine Calls.mono (HLI.out _) ?_; rintro e wx ⟨rfl, rfl⟩)
            | (go_at_call 80; refine Calls.mono (HOK.out _ (by first | exact BQ.out | exact B0.out)) ?_; rintro e wx ⟨rfl, hbx⟩; have BX := kide (Below.trans (by first | exact BQ.out | exact B0.out) (hbx.mono (by first | exact BQ.out.size | exact B0.out.size))); clear hbx))
          all_goals go_ret
          all_goals refine ⟨ret_bool ?_, (by first | exact BX.out | exact BQ.out | exact B0.out)⟩
          all_goals (have h := HZ2.out; obtain ⟨f1, f2, f3⟩ := HF.out; simp only [fieldR, manyR] at h; rw [← f1] at h; try rw [← f2] at h
                     try rw [← f3] at h
                     clear f1 f2 f3 HZ2 HF HNB HOK HLI HO1 B0 HW HK HWL; rw [← h]; clear h; cases hB : (B != 0) <;> cases hA : (A != 0) <;> cases hV : (vr != 0) <;> simp_all <;> first | omega | (rw [Bool.eq_iff_iff]; simp; omega))
      · have HO1 := kide (fun u => l3One_any op u)
        rw [show decide ((4 : Int) ≤ op ∧ op ≤ 9) = false by simp; omega] at HO1
        have n1 : (op != 1) = true := by simp; omega
        have n2 : (op != 2) = true := by simp; omega
        have n4 : (op != 4) = true := by simp; omega
        have m1 : (op == 1) = false := by simp; omega
        have m2 : (op == 2) = false := by simp; omega
        have m3 : (op == 3) = false := by simp; omega
        cases NV
        all_goals
          go_wp2_with (first
            | (go_at_call 78; refine Calls.mono (HNB.out _) ?_; rintro e wq ⟨rfl, hbq⟩; have k0 := kcell hbq w.heap.size 0 hlw; have k1 := kcell hbq w.heap.size 1 hlw; have k2 := kcell hbq w.heap.size 2 hlw; have k3 := kcell hbq w.heap.size 3 hlw; have k4 := kcell hbq w.heap.size 4 hlw; have k5 := kcell hbq w.heap.size 5 hlw; have k6 := kcell hbq w.heap.size 6 hlw; have BQ := kide (B0.out.trans (hbq.mono B0.out.size)); clear hbq)
            | (go_at_call 79; refine Calls.mono (HO1.out _) ?_; rintro e wx ⟨rfl, rfl⟩)
            | (go_at_call 53; refine Calls.mono (HLI.out _) ?_; rintro e wx ⟨rfl, rfl⟩)
            | (go_at_call 80; refine Calls.mono (HOK.out _ (by first | exact BQ.out | exact B0.out)) ?_; rintro e wx ⟨rfl, hbx⟩; have BX := kide (Below.trans (by first | exact BQ.out | exact B0.out) (hbx.mono (by first | exact BQ.out.size | exact B0.out.size))); clear hbx))
          all_goals go_ret
          all_goals refine ⟨ret_bool ?_, (by first | exact BX.out | exact BQ.out | exact B0.out)⟩
          all_goals (have h := HZ2.out; obtain ⟨f1, f2, f3⟩ := HF.out; simp only [fieldR, manyR] at h; rw [← f1] at h; try rw [← f2] at h
                     try rw [← f3] at h
                     clear f1 f2 f3 HZ2 HF HNB HOK HLI HO1 B0 HW HK HWL; rw [← h]; clear h; cases hB : (B != 0) <;> cases hA : (A != 0) <;> cases hV : (vr != 0) <;> simp_all <;> first | omega | (rw [Bool.eq_iff_iff]; simp; omega))

end Go.Proofs.YtckidgpopbpagaaGreatDoor

/- The given l3Wide: the width of a node by those of its kids. -/
namespace Go.Proofs.YtckidgpopbpagaaGreatDoor
set_option linter.unusedVariables false
set_option linter.unusedSimpArgs false
open Go.RowKit

/-- The sum of the kids' widths, cut at 8192. -/
def sumR (wide : List Int) : List Int → Int → Int
  | [], s => s
  | k :: t, s => sumR wide t (min 8192 (s + wide.getD k.toNat 0))

/-- The width of a node; -1: its bounds are not kept. -/
def wideR (ds : List Dc) (n : Tc) (s : Int) : Int :=
  if n.op = 1 then (ds.getD n.vr.toNat (.empty, 0)).2
  else if n.op = 2 then n.bw
  else if n.op = 4 then (if n.b < 0 ∨ n.a < n.b ∨ s ≤ n.a then -1 else n.a - n.b + 1)
  else if n.op = 5 ∨ n.op = 6 then (if 0 ≤ n.a ∧ n.a ≤ 4096 then s + n.a else -1)
  else if n.op = 7 ∨ n.op = 8 then (if 0 ≤ n.a ∧ n.a ≤ 4096 then s else -1)
  else if n.op = 9 then (if 1 ≤ n.a ∧ n.a ≤ 4096 then s * n.a else -1)
  else s

theorem sumR_range (wide : List Int) (ks : List Int) (s : Int) (hw : ∀ x ∈ wide, 1 ≤ x ∧ x ≤ 4096) (h0 : 0 ≤ s) (h1 : s ≤ 8192) : 0 ≤ sumR wide ks s ∧ sumR wide ks s ≤ 8192 := by
  induction ks generalizing s with
  | nil => exact ⟨h0, h1⟩
  | cons k t ih =>
    rw [sumR]
    have hx : 0 ≤ wide.getD k.toNat 0 := by
      rw [List.getD]
      cases h : wide[k.toNat]? with
      | none => simp
      | some x => have := hw x (List.mem_of_getElem? h); simp; omega
    exact ih _ (by omega) (by omega)

set_option maxHeartbeats 1000000 in
theorem l3Wide_any (a : Option Addr) (c : Nat) (ds : List Dc) (n : Tc) (wa ka ya : Option Addr) (wc kc yc : Nat) (wide : List Int) (w : World) (hr : RdD w a ds) (hw : Rd w wa n.ws) (hk : RdI w ka n.ks) (hy : RdI w ya wide)
    (hwd : ∀ x ∈ wide, 1 ≤ x ∧ x ≤ 4096) (hkr : kidsR wide.length n.ks = true) (hv : n.op = 1 → 0 ≤ n.vr ∧ n.vr ≤ (ds.length : Int) - 1) (hA : in64 n.a) (hB : in64 n.b) :
    Calls Tryz.prog 52 #[.slice a ds.length c, .agg #[.int .i64 n.op, .int .i64 n.vr, .int .i64 n.a, .int .i64 n.b, .int .i64 n.bw, .slice wa n.ws.length wc, .slice ka n.ks.length kc], .slice ya wide.length yc] w fun e w' => e = .returned (.int .i64 (wideR ds n (sumR wide n.ks 0))) ∧ Below w.heap.size w w' := by
  obtain ⟨op, vr, A, B, bw, ws, ks⟩ := n
  simp only [] at hw hk hkr hv hA hB ⊢
  generalize hZ : wideR ds ⟨op, vr, A, B, bw, ws, ks⟩ (sumR wide ks 0) = Z
  have HZ := kide hZ
  clear hZ
  have hb0 : Below w.heap.size w (w.alloc (Obj.cells #[Value.int .i64 op, Value.int .i64 vr, Value.int .i64 A, Value.int .i64 B, Value.int .i64 bw, Value.slice wa ws.length wc, Value.slice ka ks.length kc] 62)) := (Below.refl _ _).alloc (Nat.le_refl _) _
  have HK := kide (hk.later hb0)
  have HY := kide (hy.later hb0)
  have HR := kide (hr.later hb0)
  have hl := hk.1
  have hl2 := hy.1
  have hl3 := hr.1
  have B0 := kide hb0
  have HKR := kide hkr
  have HV := kide hv
  have HWD := kide hwd
  clear hw hk hb0 hr hy hkr hv hwd
  go_enter Tryz.func52, Tryz.ntmps52
  go_wp2_with fail
  have c0 : (w.alloc (Obj.cells #[Value.int .i64 op, Value.int .i64 vr, Value.int .i64 A, Value.int .i64 B, Value.int .i64 bw, Value.slice wa ws.length wc, Value.slice ka ks.length kc] 62)).cell? ⟨w.heap.size, 0, none⟩ = some (.int .i64 op) := by simp [go_sem]
  have c1 : (w.alloc (Obj.cells #[Value.int .i64 op, Value.int .i64 vr, Value.int .i64 A, Value.int .i64 B, Value.int .i64 bw, Value.slice wa ws.length wc, Value.slice ka ks.length kc] 62)).cell? ⟨w.heap.size, 1, none⟩ = some (.int .i64 vr) := by simp [go_sem]
  have c2 : (w.alloc (Obj.cells #[Value.int .i64 op, Value.int .i64 vr, Value.int .i64 A, Value.int .i64 B, Value.int .i64 bw, Value.slice wa ws.length wc, Value.slice ka ks.length kc] 62)).cell? ⟨w.heap.size, 2, none⟩ = some (.int .i64 A) := by simp [go_sem]
  have c3 : (w.alloc (Obj.cells #[Value.int .i64 op, Value.int .i64 vr, Value.int .i64 A, Value.int .i64 B, Value.int .i64 bw, Value.slice wa ws.length wc, Value.slice ka ks.length kc] 62)).cell? ⟨w.heap.size, 3, none⟩ = some (.int .i64 B) := by simp [go_sem]
  have c4 : (w.alloc (Obj.cells #[Value.int .i64 op, Value.int .i64 vr, Value.int .i64 A, Value.int .i64 B, Value.int .i64 bw, Value.slice wa ws.length wc, Value.slice ka ks.length kc] 62)).cell? ⟨w.heap.size, 4, none⟩ = some (.int .i64 bw) := by simp [go_sem]
  have c5 : (w.alloc (Obj.cells #[Value.int .i64 op, Value.int .i64 vr, Value.int .i64 A, Value.int .i64 B, Value.int .i64 bw, Value.slice wa ws.length wc, Value.slice ka ks.length kc] 62)).cell? ⟨w.heap.size, 5, none⟩ = some (.slice wa ws.length wc) := by simp [go_sem]
  have c6 : (w.alloc (Obj.cells #[Value.int .i64 op, Value.int .i64 vr, Value.int .i64 A, Value.int .i64 B, Value.int .i64 bw, Value.slice wa ws.length wc, Value.slice ka ks.length kc] 62)).cell? ⟨w.heap.size, 6, none⟩ = some (.slice ka ks.length kc) := by simp [go_sem]
  generalize (w.alloc (Obj.cells #[Value.int .i64 op, Value.int .i64 vr, Value.int .i64 A, Value.int .i64 B, Value.int .i64 bw, Value.slice wa ws.length wc, Value.slice ka ks.length kc] 62)) = w0 at *
  have hs0 := sumR_range wide ks 0 HWD.out (by omega) (by omega)
  generalize hSS : sumR wide ks 0 = SS at *
  have HSS := kide hSS
  clear hSS
  go_loopw [7, 8] (fun q i wr => ∃ (k : Nat) (S : Int), k ≤ ks.length ∧ i = .int .i64 k ∧ q = .int .i64 S ∧ 0 ≤ S ∧ S ≤ 8192 ∧ sumR wide (ks.drop k) S = SS ∧ wr = w0) (fun _ i _ => ks.length - (intOf i).toNat)
  case atStart => exact ⟨0, 0, Nat.zero_le _, rfl, rfl, by omega, by omega, by rw [List.drop_zero]; exact HSS.out, rfl⟩
  case round =>
    obtain ⟨k, S, hk, rfl, rfl, hS0, hS1, hq, rfl⟩ := hrel
    have HQ := kide hq
    clear hq HSS
    by_cases hlt : k < ks.length
    · obtain ⟨-, -, h | ⟨b, o, rfl, hc⟩⟩ := HK.out
      · subst h; simp at hlt
      have g0 := hc k hlt
      clear hc HK
      have hgk : ks[k] = ks.getD k 0 := by simp [List.getD, hlt]
      have HGK := kide hgk
      have hmem : ks.getD k 0 ∈ ks := by rw [← hgk]; exact List.getElem_mem hlt
      clear hgk
      generalize ks.getD k 0 = y at *
      have hy := HKR.out
      rw [kidsR, List.all_eq_true] at hy
      have hy2 := hy y hmem
      clear hy hmem
      simp at hy2
      obtain ⟨m, rfl⟩ : ∃ m : Nat, y = (m : Int) := ⟨y.toNat, by omega⟩
      have hm : m < wide.length := by omega
      clear hy2
      obtain ⟨-, -, h | ⟨b', o', rfl, hc'⟩⟩ := HY.out
      · subst h; simp at hm
      have g1 := hc' m hm
      clear hc' HY
      have hxm : wide.getD m 0 ∈ wide := by
        have : wide.getD m 0 = wide[m] := by simp [List.getD, hm]
        rw [this]; exact List.getElem_mem hm
      have hx := HWD.out _ hxm
      clear hxm
      have hst : sumR wide (ks.drop (k + 1)) (min 8192 (S + wide.getD m 0)) = SS := by
        have h := HQ.out
        rw [List.drop_eq_getElem_cons hlt, HGK.out, sumR, Int.toNat_natCast] at h
        exact h
      generalize wide.getD m 0 = x at *
      have HST := kide hst
      have i0 : (k : Int) < (ks.length : Int) := by omega
      clear hst HQ HGK
      go_wp2_with fail
      go_roundw
      case rel => exact ⟨k + 1, _, by omega, by go_num, rfl, by omega, by omega, HST.out, by first | rfl | trivial⟩
      case measure => simp [intOf]; omega
    · have e : k = ks.length := by omega
      subst e
      have hSe : S = SS := by
        have h := HQ.out
        rw [List.drop_length, sumR] at h
        exact h
      subst hSe
      clear HQ hlt hk
      have HLI := kide (fun u => l1In_any A 0 4096 u)
      have HLJ := kide (fun u => l1In_any A 1 4096 u)
      rcases (show op = 1 ∨ op = 2 ∨ op = 4 ∨ op = 5 ∨ op = 6 ∨ op = 7 ∨ op = 8 ∨ op = 9 ∨ (op ≠ 1 ∧ op ≠ 2 ∧ op ≠ 4 ∧ op ≠ 5 ∧ op ≠ 6 ∧ op ≠ 7 ∧ op ≠ 8 ∧ op ≠ 9) by omega) with rfl | rfl | rfl | rfl | rfl | rfl | rfl | rfl | ⟨g1, g2, g4, g5, g6, g7, g8, g9⟩
      · have hv := HV.out rfl
        obtain ⟨m, rfl⟩ : ∃ m : Nat, vr = (m : Int) := ⟨vr.toNat, by omega⟩
        have hm : m < ds.length := by omega
        obtain ⟨-, -, h | ⟨b, o, rfl, hc⟩⟩ := HR.out
        · subst h; simp at hm
        have gd : ds[m]? = some (ds.getD m (.empty, 0)) := by simp [List.getD, hm]
        obtain ⟨g0, g1⟩ := hc m _ gd
        have hZ := HZ.out
        simp only [wideR, if_true, Int.toNat_natCast] at hZ
        generalize ds.getD m (.empty, 0) = d at *
        obtain ⟨dn, dw⟩ := d
        simp only [] at g0 g1 hZ
        subst hZ
        clear hc HR gd HV HZ hv
        go_wp2_with fail
        go_ret
        exact ⟨rfl, B0.out⟩
      · have hZ := HZ.out
        simp [wideR] at hZ
        subst hZ
        clear HZ HV
        go_wp2_with fail
        go_ret
        exact ⟨rfl, B0.out⟩
      · have hZ := HZ.out
        simp [wideR] at hZ
        have HZ2 := kide hZ
        clear HZ HV hZ
        go_wp2_with fail
        all_goals go_ret
        all_goals refine ⟨ret_int ?_, B0.out⟩
        all_goals (have h := HZ2.out; split at h <;> omega)
      · have hZ := HZ.out
        simp [wideR] at hZ
        have HZ2 := kide hZ
        clear HZ HV hZ
        by_cases hA2 : 0 ≤ A ∧ A ≤ 4096
        · rw [decide_eq_true hA2] at HLI
          have h := HZ2.out
          rw [if_pos hA2] at h
          subst h
          go_wp2_with (go_at_call 53; refine Calls.mono (HLI.out _) ?_; rintro e w1 ⟨rfl, rfl⟩)
          go_ret
          exact ⟨rfl, B0.out⟩
        · rw [decide_eq_false hA2] at HLI
          have h := HZ2.out
          rw [if_neg hA2] at h
          subst h
          go_wp2_with (go_at_call 53; refine Calls.mono (HLI.out _) ?_; rintro e w1 ⟨rfl, rfl⟩)
          go_ret
          exact ⟨rfl, B0.out⟩
      · have hZ := HZ.out
        simp [wideR] at hZ
        have HZ2 := kide hZ
        clear HZ HV hZ
        by_cases hA2 : 0 ≤ A ∧ A ≤ 4096
        · rw [decide_eq_true hA2] at HLI
          have h := HZ2.out
          rw [if_pos hA2] at h
          subst h
          go_wp2_with (go_at_call 53; refine Calls.mono (HLI.out _) ?_; rintro e w1 ⟨rfl, rfl⟩)
          go_ret
          exact ⟨rfl, B0.out⟩
        · rw [decide_eq_false hA2] at HLI
          have h := HZ2.out
          rw [if_neg hA2] at h
          subst h
          go_wp2_with (go_at_call 53; refine Calls.mono (HLI.out _) ?_; rintro e w1 ⟨rfl, rfl⟩)
          go_ret
          exact ⟨rfl, B0.out⟩
      · have hZ := HZ.out
        simp [wideR] at hZ
        have HZ2 := kide hZ
        clear HZ HV hZ
        by_cases hA2 : 0 ≤ A ∧ A ≤ 4096
        · rw [decide_eq_true hA2] at HLI
          have h := HZ2.out
          rw [if_pos hA2] at h
          subst h
          go_wp2_with (go_at_call 53; refine Calls.mono (HLI.out _) ?_; rintro e w1 ⟨rfl, rfl⟩)
          go_ret
          exact ⟨rfl, B0.out⟩
        · rw [decide_eq_false hA2] at HLI
          have h := HZ2.out
          rw [if_neg hA2] at h
          subst h
          go_wp2_with (go_at_call 53; refine Calls.mono (HLI.out _) ?_; rintro e w1 ⟨rfl, rfl⟩)
          go_ret
          exact ⟨rfl, B0.out⟩
      · have hZ := HZ.out
        simp [wideR] at hZ
        have HZ2 := kide hZ
        clear HZ HV hZ
        by_cases hA2 : 0 ≤ A ∧ A ≤ 4096
        · rw [decide_eq_true hA2] at HLI
          have h := HZ2.out
          rw [if_pos hA2] at h
          subst h
          go_wp2_with (go_at_call 53; refine Calls.mono (HLI.out _) ?_; rintro e w1 ⟨rfl, rfl⟩)
          go_ret
          exact ⟨rfl, B0.out⟩
        · rw [decide_eq_false hA2] at HLI
          have h := HZ2.out
          rw [if_neg hA2] at h
          subst h
          go_wp2_with (go_at_call 53; refine Calls.mono (HLI.out _) ?_; rintro e w1 ⟨rfl, rfl⟩)
          go_ret
          exact ⟨rfl, B0.out⟩
      · have hZ := HZ.out
        simp [wideR] at hZ
        have HZ2 := kide hZ
        clear HZ HV hZ
        by_cases hA2 : 1 ≤ A ∧ A ≤ 4096
        · rw [decide_eq_true hA2] at HLJ
          have h := HZ2.out
          rw [if_pos hA2] at h
          subst h
          first | (have hmul : 0 ≤ S * A ∧ S * A ≤ 33554432 := ⟨Int.mul_nonneg (by omega) (by omega), by have := Int.mul_le_mul hS1 hA2.2 (by omega) (by omega : (0 : Int) ≤ 8192); omega⟩) | skip
          go_wp2_with (go_at_call 53; refine Calls.mono (HLJ.out _) ?_; rintro e w1 ⟨rfl, rfl⟩)
          go_ret
          exact ⟨rfl, B0.out⟩
        · rw [decide_eq_false hA2] at HLJ
          have h := HZ2.out
          rw [if_neg hA2] at h
          subst h
          go_wp2_with (go_at_call 53; refine Calls.mono (HLJ.out _) ?_; rintro e w1 ⟨rfl, rfl⟩)
          go_ret
          exact ⟨rfl, B0.out⟩
      · have hZ := HZ.out
        simp [wideR, g1, g2, g4, g5, g6, g7, g8, g9] at hZ
        subst hZ
        have m1 : (op == 1) = false := by simp; omega
        have m2 : (op == 2) = false := by simp; omega
        have m4 : (op == 4) = false := by simp; omega
        have m5 : (op == 5) = false := by simp; omega
        have m6 : (op == 6) = false := by simp; omega
        have m7 : (op == 7) = false := by simp; omega
        have m8 : (op == 8) = false := by simp; omega
        have m9 : (op == 9) = false := by simp; omega
        clear HZ HV
        go_wp2_with fail
        go_ret
        exact ⟨rfl, B0.out⟩

end Go.Proofs.YtckidgpopbpagaaGreatDoor

/- An owned row of whole numbers that grows; what the widths of a term are. -/
namespace Go.Proofs.YtckidgpopbpagaaGreatDoor
set_option linter.unusedVariables false
set_option linter.unusedSimpArgs false
open Go.RowKit

/-- A row of whole numbers that is the owner's own. -/
def OW (w : World) (B : Nat) (v : Value) (xs : List Int) : Prop := w.ownsRow B 2 1 v xs.length (xs.map (Value.int .i64))

theorem OW.lt {w : World} {B : Nat} {v : Value} {xs : List Int} (h : OW w B v xs) {k : Nat} (hk : v.ownBlock = some k) : B ≤ k ∧ k < w.heap.size := World.ownsRow.lt h k hk

theorem OW.typed {w : World} {B : Nat} {v : Value} {xs : List Int} (h : OW w B v xs) {b : Nat} {cs : Array Value} {t : TypeId} {fr : Nat × Nat} (hb : w.heap[b]? = some (.cells cs t fr)) (ht : t ≠ 2) : some b ≠ v.ownBlock := fun hk => by
  rcases h.2 with ⟨rfl, -⟩ | ⟨g, cap, cur, rfl, hg, hh, -⟩
  · cases hk
  · cases hk
    rw [hb] at hh
    cases hh
    exact ht rfl

theorem OW.kept {w w' : World} {B : Nat} {v : Value} {xs : List Int} (h : OW w B v xs) {g : Option Nat} (hg : w.grownBy w' g) (hn : v.ownBlock = none ∨ v.ownBlock ≠ g) : OW w' B v xs := World.ownsRow.kept h hg (by
  rcases hn with hn | hn
  · exact .inl hn
  · exact .inr hn)

theorem OW.later {w w' : World} {B : Nat} {v : Value} {xs : List Int} (h : OW w B v xs) (hb : Below w.heap.size w w') : OW w' B v xs := World.ownsRow.kept (row := none) h ⟨hb.os, hb.tape, hb.output, hb.size, fun k hk _ => hb.block k hk⟩ (by
  cases h' : v.ownBlock with
  | none => exact .inl rfl
  | some k => exact .inr (by simp))

theorem OW.rd {w : World} {B : Nat} {v : Value} {xs : List Int} (h : OW w B v xs) (hl : xs.length ≤ 1048576) (hi : ∀ x ∈ xs, in64 x) : ∃ a c, v = .slice a xs.length c ∧ RdI w a xs := by
  have hcells := fun g hg => World.ownsRow.cells h (g := g) hg
  rcases h.2 with ⟨rfl, hn⟩ | ⟨g, cap, cur, rfl, -, -, -⟩
  · exact ⟨none, 0, by rw [hn], hl, hi, .inl (List.eq_nil_of_length_eq_zero hn)⟩
  · refine ⟨some ⟨g, 0, none⟩, cap, rfl, hl, hi, .inr ⟨g, 0, rfl, fun i hi' => ?_⟩⟩
    have c0 := hcells g rfl i (.int .i64 (xs.getD i 0)) (by simp [List.getD, hi'])
    rw [Addr.add_lit] at c0
    simpa using c0

theorem wpList_appW {w : World} {ops : Array Oper} {rest : List Oper} {o : Oper} {a : Act} {Q : Exit → Act → World → Prop} (hgd : o.guard = none) (s x : Operand)
    (ho : o.op = .call { callee := .builtin .append, args := #[s, x], argTypes := #[55, 55] })
    (B : Nat) (v : Value) (xs : List Int) (y : Int) (hs : a.eval s = v) (hown : OW w B v xs) (gx : Nat) (hx : a.eval x = .slice (some ⟨gx, 0, none⟩) 1 1)
    (h0 : w.cell? ⟨gx, 0, none⟩ = some (.int .i64 y)) (hl : xs.length ≤ 1073741824) (hB : B ≤ w.heap.size)
    (h : ∀ v' w', OW w' B v' (xs ++ [y]) → w.grownBy w' v.ownBlock → wpList Tryz.prog ops Q rest (a.put o.dst v') w') : wpList Tryz.prog ops Q (o :: rest) a w := by
  obtain ⟨i0, hi, hz0, hz1, hz2⟩ := info_parts Tryz.infoI64
  refine wpList_append_own_at w hgd s x 55 ho B 2 i0 _ 1 8 Tryz.underlying55 hi hz0 hz1 hz2 rfl (by decide) v xs.length (xs.map (Value.int .i64)) hs hown ⟨gx, 0, none⟩ 1 1 [.int .i64 y] hx rfl ?_ ?_ (by unfold maxLen; omega) (by omega) hB ?_
  · intro j u hj
    rw [Addr.add_lit]
    match j, hj with
    | 0, hj => simp at hj; subst hj; exact h0
    | j + 1, hj => simp at hj
  · intro u hu
    simp at hu
    subst hu
    rfl
  · intro v' w' ho' hg _ _
    refine h v' w' ?_ hg
    unfold OW
    rw [List.map_append, List.length_append]
    exact ho'

/-- The width of a node behind those whose widths are told; none: it is not right. -/
def stepR (ds : List Dc) (wide : List Int) (n : Tc) : Option Int :=
  if (kidsR wide.length n.ks && fieldR n && manyR ds.length n) = true then
    (if 1 ≤ wideR ds n (sumR wide n.ks 0) ∧ wideR ds n (sumR wide n.ks 0) ≤ 4096 then some (wideR ds n (sumR wide n.ks 0)) else none)
  else none

/-- .. of all, one behind the other. -/
def goR (ds : List Dc) : List Int → List Tc → Option (List Int)
  | wide, [] => some wide
  | wide, n :: t => match stepR ds wide n with
    | none => none
    | some v => goR ds (wide ++ [v]) t

def usedR (ns : List Tc) (i : Nat) : Bool := ns.any (fun n => n.ks.any (fun k => decide (k = (i : Int))))

/-- The widths of all nodes; nothing: the term is not right. -/
def widthsR (ds : List Dc) (ns : List Tc) : List Int :=
  if (dclR ds && decide (1 ≤ ns.length) && decide (ns.length ≤ 400)) = true then
    match goR ds [] ns with
    | none => []
    | some wide => if (List.range (ns.length - 1)).all (usedR ns) = true then wide else []
  else []

theorem goR_none {ds : List Dc} {wide : List Int} {ns : List Tc} {k : Nat} {n : Tc} (hk : ns[k]? = some n) (h : stepR ds wide n = none) : goR ds wide (ns.drop k) = none := by
  have l := (List.getElem?_eq_some_iff.1 hk).1
  rw [List.drop_eq_getElem_cons l, goR]
  rw [List.getElem?_eq_getElem l] at hk
  cases hk
  rw [h]

theorem goR_some {ds : List Dc} {wide : List Int} {ns : List Tc} {k : Nat} {n : Tc} {v : Int} (hk : ns[k]? = some n) (h : stepR ds wide n = some v) : goR ds wide (ns.drop k) = goR ds (wide ++ [v]) (ns.drop (k + 1)) := by
  have l := (List.getElem?_eq_some_iff.1 hk).1
  rw [List.drop_eq_getElem_cons l, goR]
  rw [List.getElem?_eq_getElem l] at hk
  cases hk
  rw [h]

theorem stepR_range {ds : List Dc} {wide : List Int} {n : Tc} {v : Int} (h : stepR ds wide n = some v) : 1 ≤ v ∧ v ≤ 4096 := by
  unfold stepR at h
  split at h
  · split at h
    · cases h; assumption
    · cases h
  · cases h

theorem stepR_kids {ds : List Dc} {wide : List Int} {n : Tc} {v : Int} (h : stepR ds wide n = some v) : (kidsR wide.length n.ks && fieldR n && manyR ds.length n) = true := by
  unfold stepR at h
  split at h
  · assumption
  · cases h

/-- A node of a variable that is as it should be names one. -/
theorem manyR_var {nd : Nat} {n : Tc} (h : manyR nd n = true) : n.op = 1 → 0 ≤ n.vr ∧ n.vr ≤ (nd : Int) - 1 := by
  intro e
  unfold manyR at h
  rw [if_pos e] at h
  simp at h
  omega

end Go.Proofs.YtckidgpopbpagaaGreatDoor

/- The given l3Widths, where it refuses at once. (The rest, l3Widths_yes, goes on behind the same head: then hmk := run_make_row' of []bool, two allocs, the loop with slots wide 6, used 7, i 8: carry in a bundle the box and the empty row `none` as heap facts, the row of bools as rowIs U, wide as OW with base w1.heap.size.) -/
namespace Go.Proofs.YtckidgpopbpagaaGreatDoor
set_option linter.unusedVariables false
set_option linter.unusedSimpArgs false
open Go.RowKit

theorem OW.fresh (w : World) (B : Nat) (hB : B ≤ w.heap.size) : OW (w.alloc (Obj.cells #[] 2)) B (.slice (some ⟨w.heap.size, 0, none⟩) 0 0) [] :=
  ⟨rfl, .inr ⟨w.heap.size, 0, #[], rfl, hB, heap_alloc_new _ _, Nat.le_refl _, by unfold maxLen; omega, rfl, rfl⟩⟩

theorem Tryz.infoBool : (Tryz.prog.info? 4).map (fun i => (i.zero, i.size, i.bytes)) = some (some (.bool false), 1, 1) := by kernel_rfl

set_option maxHeartbeats 1000000 in
theorem l3Widths_no (a b : Option Addr) (c c2 n : Nat) (ds : List Dc) (xs : List Tg) (w : World) (hr : RdD w a ds) (hs : RdT w b xs) (hn : xs.length = n) (hok : ¬ (dclR ds = true ∧ 1 ≤ n ∧ n ≤ 400)) :
    Calls Tryz.prog 36 #[.slice a ds.length c, .agg #[.slice b n c2]] w fun e w' => ∃ v, e = .returned v ∧ OW w' (w.heap.size + 1) v (widthsR ds (xs.map Tg.ct)) ∧ Below w.heap.size w w' := by
  have hl1 := hr.1
  have hl2 := hs.1
  rw [hn] at hl2
  have HR := kide hr
  have HS := kide hs
  have HN := kide hn
  have hb1 : Below w.heap.size w (w.alloc (Obj.cells #[Value.slice b n c2] 33)) := (Below.refl _ _).alloc (Nat.le_refl _) _
  have hb2 : Below w.heap.size w ((w.alloc (Obj.cells #[Value.slice b n c2] 33)).alloc (Obj.cells #[] 2)) := hb1.alloc (by simp) _
  have B2 := kide hb2
  have HDK := kide (fun u (hu : Below w.heap.size w u) => specDecls_any a c ds u (hr.later hu))
  generalize hZ : widthsR ds (xs.map Tg.ct) = Z
  have HZ := kide hZ
  clear hr hs hn hb1 hb2 hZ
  go_enter Tryz.func36, Tryz.ntmps36
  go_wp2_with fail
  refine Calls.mono (HDK.out _ B2.out) ?_
  rintro e w1 ⟨rfl, hb1⟩
  have c1 := kcell hb1 w.heap.size 0 (by simp; omega)
  have n1 : w1.heap[w.heap.size + 1]? = some (.cells #[] 2 (0, 0)) := by
    rw [hb1.block _ (by simp)]
    have h := heap_alloc_new (w.alloc (Obj.cells #[Value.slice b n c2] 33)) (Obj.cells #[] 2)
    simpa using h
  have B1 := kide (B2.out.trans (hb1.mono B2.out.size))
  have z1 : w.heap.size + 1 < w1.heap.size := lt_of_block n1
  have zz : w.heap.size < w1.heap.size := by omega
  simp at c1
  clear hb1 B2
  have ON1 : Hid (OW w1 (w.heap.size + 1) (.slice (some ⟨w.heap.size + 1, 0, none⟩) 0 0) []) := ⟨rfl, .inr ⟨w.heap.size + 1, 0, #[], rfl, Nat.le_refl _, n1, Nat.le_refl _, by unfold maxLen; omega, rfl, rfl⟩⟩
  have hZ0 : Z = [] := by
    rw [← HZ.out, widthsR, if_neg]
    have := HN.out
    simp only [Bool.and_eq_true, decide_eq_true_eq, List.length_map, this]
    rintro ⟨⟨h1, h2⟩, h3⟩
    exact hok ⟨h1, h2, h3⟩
  subst hZ0
  cases hd : dclR ds with
  | false =>
    clear HZ HDK hok
    go_wp2_with fail
    go_ret
    exact ⟨_, rfl, ON1.out, B1.out⟩
  | true =>
    have hor : n < 1 ∨ 400 < n := by rw [hd] at hok; simp at hok; omega
    rcases hor with hor | hor
    · have : n = 0 := by omega
      subst this
      clear HZ HDK hok
      go_wp2_with fail
      go_ret
      exact ⟨_, rfl, ON1.out, B1.out⟩
    · clear HZ HDK hok
      go_wp2_with fail
      go_ret
      exact ⟨_, rfl, ON1.out, B1.out⟩

end Go.Proofs.YtckidgpopbpagaaGreatDoor
