/- A loop over an iterator that itself may loop over iterators: the word that such an iterator keeps, and what its caller may rely on. -/
import Derived.RangeFuncNested
import Derived.RangeFuncBound
import Derived.RangeFuncCalls
import Derived.RangeFuncLeaves
import Derived.RangeFuncBox
import Derived.Shelf.Abstract
import Derived.WalkKit
import Derived.OwnWalkIn
import Derived.TacticsInMore
import Derived.LoopNIn
import Derived.LoopIn
import Derived.Test.YtnpjgoklpaigjaaGreatDoorProg
namespace Go.Proofs.YtnpjgoklpaigjaaGreatDoor
set_option linter.unusedVariables false
set_option linter.unusedSimpArgs false
open Go.RowKit Go.Shelf
def Cz (W W' : World) : Prop := W.heap.size ≤ W'.heap.size ∧ ∀ (k : Nat) (o : Obj), W.heap[k]? = some o → o.isCells = true → W'.heap[k]? = some o
theorem Cz.refl (W : World) : Cz W W := ⟨Nat.le_refl _, fun _ _ h _ => h⟩
theorem Cz.trans {A B C : World} (h : Cz A B) (k : Cz B C) : Cz A C := ⟨Nat.le_trans h.1 k.1, fun j o hj hc => k.2 j o (h.2 j o hj hc) hc⟩
theorem Cz.below {A B : World} (h : Below A.heap.size A B) : Cz A B := ⟨h.size, fun j o hj _ => (h.block j (Array.getElem?_eq_some_iff.1 hj).1).trans hj⟩
theorem Cz.put {W : World} {l : Nat} {o : Obj} (o' : Obj) (hl : W.heap[l]? = some o) (ho : o.isCells = false) : Cz W (W.putObj l o') :=
 ⟨by simp, fun j q hj hc => by
  by_cases e : j = l
  ·subst e
   rw [hl] at hj
   cases hj
   rw [ho] at hc
   cases hc
  ·rw [World.putObj_heap_other e]
   exact hj⟩
def Ko (O : Nat → Prop) (W W' : World) : Prop := W.heap.size ≤ W'.heap.size ∧ ∀ (k : Nat) (o : Obj), W.heap[k]? = some o → o.isCells = true → ¬ O k → W'.heap[k]? = some o
theorem Cz.ko {W W' : World} (h : Cz W W') (O : Nat → Prop) : Ko O W W' := ⟨h.1, fun k o hk hc _ => h.2 k o hk hc⟩
theorem Ko.trans {O : Nat → Prop} {A B C : World} (h : Ko O A B) (k : Ko O B C) : Ko O A C := ⟨Nat.le_trans h.1 k.1, fun j o hj hc hn => k.2 j o (h.2 j o hj hc hn) hc hn⟩
def OwedW {α : Type} (F : Fence) (m : Nat) (P : Program) (l : Nat) (encs : α → Array Value) (Kp : World → World → Prop) (Rdy : Nat → List α → α → World → Prop) (S : Nat) (J : List α × (Nat → Prop) → World → Prop) (Jx : List α → World → Prop) : Prop :=
 ∀ pre O x W0 W1, J (pre, O) W0 → Cz W0 W1 → J (pre, O) W1 → Rdy W0.heap.size pre x W1 → YieldAt F m P l (encs x) W1 fun e W' =>
  (e = .returned (.bool true) ∧ Kp W1 W' ∧ Ko O W1 W' ∧ KeepsFrom S W1 W' ∧ ∃ O', J (pre ++ [x], O') W' ∧ ∀ k, O' k → O k ∨ W1.heap.size ≤ k) ∨ (e = .returned (.bool false) ∧ KeepsFrom S W1 W' ∧ Jx (pre ++ [x]) W')
def SeqW {α : Type} (F : Fence) (n : Nat) (P : Program) (g : Nat) (lb : Array Value) (encs : α → Array Value) (Kp : World → World → Prop) (Rdy : Nat → List α → α → World → Prop) (S Sp : List α → Prop) (w : World) : Prop :=
 ∀ (l : Nat) (J : List α × (Nat → Prop) → World → Prop) (Jx : List α → World → Prop) (O : Nat → Prop) (W : World), Kp w W → OwnFrom W.heap.size J → OwnFrom W.heap.size Jx → (∀ s W, J s W → ∀ k, s.2 k → k < W.heap.size) → OwedW F (n - 1) P l encs Kp Rdy W.heap.size J Jx → J ([], O) W →
  CallsIn F n P g (#[.func (.yield l) #[] #[]] ++ lb) W fun e W' => (∃ v, e = .returned v) ∧ ((∃ xs O', S xs ∧ J (xs, O') W') ∨ (∃ pre, Sp pre ∧ Jx pre W'))
theorem keeps_low {B B' : Nat} {W W' : World} (h : KeepsFrom B W W') (hb : B ≤ B') : KeepsFrom B' W W' := ⟨h.size, fun k o hk => h.same k o (Nat.le_trans hb hk)⟩
theorem keeps_put {B l : Nat} {W : World} {o : Obj} (hl : l < B) : KeepsFrom B W (W.putObj l o) := ⟨by simp, fun k o' hk h _ => by rw [World.putObj_heap_other (by omega)]; exact h⟩
def postW {α : Type} (B : Nat) (Kp : World → World → Prop) (I : List α × (Nat → Prop) → World → Prop) (Ix : List α → World → Prop) (xs : List α) (O : Nat → Prop) (W : World) : Exit → Act → World → Prop
 | .normal, _, W' => KeepsFrom B W W' ∧ Kp W W' ∧ Ko O W W' ∧ ∃ O', I (xs, O') W' ∧ ∀ k, O' k → O k ∨ W.heap.size ≤ k
 | .ret, _, W' => KeepsFrom B W W' ∧ Ix xs W'
 | _, _, _ => False

section
variable {F : Fence} {n : Nat} {P : Program}
theorem wpIn_rangeW {α : Type} {g : Operand} {ps : Array Tmp} {assign body : Code} {Q : Exit → Act → World → Prop} {a : Act} {w : World}
  (hro : F.round = none) (h1 : F.depth.isSome = true → 1 ≤ n) {gf : Nat} {lb : Array Value} (hg : a.eval g = .func (.func gf) #[] lb) (hF : F.fn gf) (eg : ∀ args w, (callFunc gf args).run P w = .ok (.enter gf args) w)
  {encs : α → Array Value} {Kp : World → World → Prop} {Rdy : Nat → List α → α → World → Prop} {S Sp : List α → Prop} {w0 : World} (hseq : SeqW F (n - 1) P gf lb encs Kp Rdy S Sp w0)
  (hKr : ∀ o o' : Obj, Kp w ((w.alloc o).alloc o')) (hKt : ∀ {A B C : World}, Kp A B → Kp B C → Kp A C) (hKb : ∀ (W : World) (l : Nat) (o o' : Obj), w.heap.size ≤ l → W.heap[l]? = some o → o.isCells = false → Kp W (W.putObj l o'))
  (hRp : ∀ (T : Nat) (pre : List α) (x : α) (W : World) (l : Nat) (o o' : Obj), W.heap[l]? = some o → o.isCells = false → Rdy T pre x W → Rdy T pre x (W.putObj l o'))
  (hb0 : Kp w0 w) (hps : ∀ x, (encs x).size = ps.size)
  (I : List α × (Nat → Prop) → World → Prop) (Ix : List α → World → Prop) (O0 : Nat → Prop) (hI : OwnFrom w.heap.size I) (hIx : OwnFrom w.heap.size Ix) (hO : ∀ s W, I s W → ∀ k, s.2 k → k < W.heap.size) (h0 : I ([], O0) w) (Ax : Nat → α → Act → World → Prop) (hAx : ∀ T x a', OwnFrom w.heap.size (fun (_ : Unit) W => Ax T x a' W))
  (hassign : ∀ (l T : Nat) (pre : List α) (O : Nat → Prop) (x : α) (W : World) (K : Act → World → Prop), T ≤ W.heap.size → I (pre, O) W → Rdy T pre x W → (∀ a' W', KeepsFrom w.heap.size W W' → Kp W W' → Cz W W' → I (pre, O) W' → Rdy T pre x W' → Ax T x a' W' → K a' W') →
   assign.wpIn (F.inRound l) (n - 1 - 1) P (Exit.then K (fun _ _ _ => False)) { tmps := (ps.zip (encs x)).foldl (fun t (p, v) => t.setIfInBounds p v) a.tmps, defers := [] } W)
  (hbody : ∀ (l : Nat) (pre : List α) (O : Nat → Prop) (x : α) (a' : Act) (W0 W : World), w.heap.size ≤ l → I (pre, O) W0 → Cz W0 W → I (pre, O) W → Rdy W0.heap.size pre x W → Ax W0.heap.size x a' W → body.wpIn (F.inRound l) (n - 1 - 1) P (postW w.heap.size Kp I Ix (pre ++ [x]) O W) a' W)
  (hdone : ∀ (D : Nat) (xs : List α) (O : Nat → Prop) (W : World), w.heap.size ≤ D → S xs → I (xs, O) W → W.heap[D]? = some (.deferred (some [])) → Q .normal { a with defers := { target := .collected D, args := #[] } :: a.defers } W)
  (hstop : ∀ (D : Nat) (pre : List α) (W : World), w.heap.size ≤ D → Sp pre → Ix pre W → W.heap[D]? = some (.deferred (some [])) → Code.ret.wpIn F n P Q { a with defers := { target := .collected D, args := #[] } :: a.defers } W) :
  (Code.rangeFunc g ps assign body).wpIn F n P Q a w := by
 refine wpIn_rangeFunc fun fn hfn => ?_
 rw [hro]
 -- the two blocks that the loop lays: where deferred calls go, and its record
 let rc : LoopState → Option Code → Loop := fun st pe => { state := st, pending := pe, fn := fn, tmps := a.tmps, params := ps, assign := assign, body := body, defers := w.heap.size }
 have hrc : ∀ st pe, rc st pe = { state := st, pending := pe, fn := fn, tmps := a.tmps, params := ps, assign := assign, body := body, defers := w.heap.size } := fun _ _ => rfl
 obtain ⟨V, hV⟩ : ∃ V, (w.alloc (.deferred (some []))).alloc (.loop (rc .ready none)) = V := ⟨_, rfl⟩
 have hrV : V.heap[w.heap.size + 1]? = some (.loop (rc .ready none)) := by
  have := World.alloc_heap_new (w.alloc (.deferred (some []))) (.loop (rc .ready none))
  rw [World.size_alloc, hV] at this
  exact this
 have hdV : V.heap[w.heap.size]? = some (.deferred (some [])) := by
  rw [← hV]
  exact (Below.heap_alloc _ _ _ (by simp)).trans (World.alloc_heap_new w _)
 have hzV : V.heap.size = w.heap.size + 2 := by rw [← hV]; simp
 have hiV : I ([], O0) V := by rw [← hV]; exact hI.alloc _ (hI.alloc _ h0)
 have hkV : Kp w0 V := by rw [← hV]; exact hKt hb0 (hKr _ _)
 refine ⟨w.heap.size + 1, [{ target := .collected w.heap.size, args := #[] }], V, { target := .fn (.func gf) lb, args := #[.func (.yield (w.heap.size + 1)) #[] #[]] }, V, gf,
  #[.func (.yield (w.heap.size + 1)) #[] #[]] ++ lb, V, ?_, ?_, ?_, ?_, h1, ?_⟩
 ·rw [← hV]; exact run_enterLoop_outer _ _ _ _ _
 ·simp only [resolve, hg]
  simp [go_sem]
 ·intro f' hf'; simp [Target.leads] at hf'; subst hf'; exact hF
 ·simp [invoke, go_sem, eg]
 -- what is told of the two blocks while the iterator is under way
 have both : ∀ {A B : World} {row : Option Nat}, A.grownBy B row → (∀ r, row = some r → V.heap.size ≤ r ∧ ∃ o : Obj, A.heap[r]? = some o ∧ o.isCells = false) → ∀ k o, k < V.heap.size → A.heap[k]? = some o → B.heap[k]? = some o := fun hgr hr k o hk hA => by
  refine (hgr.block k (Array.getElem?_eq_some_iff.1 hA).1 (fun e => ?_)).trans hA
  have := (hr k e.symm).1
  omega
 have lift : ∀ {A : World} {row : Option Nat}, (∀ r, row = some r → V.heap.size ≤ r ∧ ∃ o : Obj, A.heap[r]? = some o ∧ o.isCells = false) → ∀ r, row = some r → w.heap.size ≤ r ∧ ∃ o : Obj, A.heap[r]? = some o ∧ o.isCells = false := fun hr r e => ⟨by have := (hr r e).1; omega, (hr r e).2⟩
 refine (hseq (w.heap.size + 1) (fun s W => I s W ∧ W.heap[w.heap.size + 1]? = some (.loop (rc .ready none)) ∧ W.heap[w.heap.size]? = some (.deferred (some [])))
  (fun pre W => Ix pre W ∧ W.heap[w.heap.size + 1]? = some (.loop (rc .done (some .ret))) ∧ W.heap[w.heap.size]? = some (.deferred (some []))) O0 V hkV
  (fun s A B row hs hgr hr => ⟨hI s A B row hs.1 hgr (lift hr), both hgr hr _ _ (by omega) hs.2.1, both hgr hr _ _ (by omega) hs.2.2⟩)
  (fun s A B row hs hgr hr => ⟨hIx s A B row hs.1 hgr (lift hr), both hgr hr _ _ (by omega) hs.2.1, both hgr hr _ _ (by omega) hs.2.2⟩) (fun s W hs => hO s W hs.1) ?_ ⟨hiV, hrV, hdV⟩).mono ?_
 ·rintro pre O x W0 W ⟨hi0, -, -⟩ hcz ⟨hi, hl, hd⟩ hrd
  refine ⟨fn, _, assign, body, by have := run_yield (P := P) (args := encs x) hl (hps x); exact this, roundIn_of_wpIn hfn (hassign _ W0.heap.size pre O x W _ hcz.1 hi hrd ?_)⟩
  intro a' Wa hka hpa hca hia hra hax
  have hla := hka.same _ _ (by omega) hl rfl
  have hda := hka.same _ _ (Nat.le_refl _) hd rfl
  refine ⟨_, run_beginRound hla rfl, ?_⟩
  obtain ⟨Wb, hWb⟩ : ∃ Wb, Wa.putObj (w.heap.size + 1) (.loop { rc .ready none with state := .busy }) = Wb := ⟨_, rfl⟩
  have hlb : Wb.heap[w.heap.size + 1]? = some (.loop { rc .ready none with state := .busy }) := by rw [← hWb]; exact World.putObj_heap_same (Array.getElem?_eq_some_iff.1 hla).1
  have hdb : Wb.heap[w.heap.size]? = some (.deferred (some [])) := by rw [← hWb]; exact (World.putObj_heap_other (by omega)).trans hda
  have hkb : Kp Wa Wb := by rw [← hWb]; exact hKb _ _ _ _ (by omega) hla rfl
  have hib : I (pre, O) Wb := by rw [← hWb]; exact hI.putObj _ hia (by omega) hla rfl
  have hrb : Rdy W0.heap.size pre x Wb := by rw [← hWb]; exact hRp _ _ _ _ _ _ _ hla rfl hra
  have hcb : Cz W0 Wb := by rw [← hWb]; exact hcz.trans (hca.trans (Cz.put _ hla rfl))
  have hcab : Cz W Wb := by rw [← hWb]; exact hca.trans (Cz.put _ hla rfl)
  have hkab : KeepsFrom V.heap.size W Wb := by rw [← hWb]; exact (keeps_low hka (by omega)).trans (keeps_put (by omega))
  have hab : Ax W0.heap.size x a' Wb := by rw [← hWb]; exact (hAx _ x a').putObj (s := ()) _ hax (by omega) hla rfl
  show body.wpIn _ _ P _ a' (Wa.putObj (w.heap.size + 1) (.loop { rc .ready none with state := .busy }))
  rw [hWb]
  refine wpIn_mono (hbody _ pre O x a' W0 Wb (by omega) hi0 hcb hib hrb hab) ?_
  rintro e a3 W3 hp
  cases e with
  | normal =>
   obtain ⟨hk3, hp3, hko3, O', hi3, hinc⟩ := hp
   have hl3 := hk3.same _ _ (by omega) hlb rfl
   have hd3 := hk3.same _ _ (Nat.le_refl _) hdb rfl
   exact ⟨_, _, run_endRound none hl3, .inl ⟨rfl, hKt hpa (hKt (hKt hkb hp3) (hKb _ _ _ _ (by omega) hl3 rfl)), (hcab.ko O).trans (hko3.trans ((Cz.put _ hl3 rfl).ko O)), hkab.trans ((keeps_low hk3 (by omega)).trans (keeps_put (by omega))), O', ⟨hI.putObj _ hi3 (by omega) hl3 rfl, World.putObj_heap_same (Array.getElem?_eq_some_iff.1 hl3).1, (World.putObj_heap_other (by omega)).trans hd3⟩, fun k hk => (hinc k hk).imp id (fun h => Nat.le_trans hcab.1 h)⟩⟩
  | ret =>
   obtain ⟨hk3, hi3⟩ := hp
   have hl3 := hk3.same _ _ (by omega) hlb rfl
   have hd3 := hk3.same _ _ (Nat.le_refl _) hdb rfl
   exact ⟨_, _, run_endRound (some .ret) hl3, .inr ⟨rfl, hkab.trans ((keeps_low hk3 (by omega)).trans (keeps_put (by omega))), hIx.putObj _ hi3 (by omega) hl3 rfl, World.putObj_heap_same (Array.getElem?_eq_some_iff.1 hl3).1, (World.putObj_heap_other (by omega)).trans hd3⟩⟩
  | exit id => exact hp.elim
  | goto t => exact hp.elim
  | panic ch => exact hp.elim
  | outgrown => exact hp.elim
 ·rintro e W2 ⟨⟨v, rfl⟩, (⟨xs, O, hS, hi, hl, hd⟩ | ⟨pre, hSp, hi, hl, hd⟩)⟩
  ·exact ⟨none, _, run_endLoop hl (by simp [hrc]), hdone _ xs O _ (Nat.le_refl _) hS (hI.putObj _ hi (by omega) hl rfl) ((World.putObj_heap_other (by omega)).trans hd)⟩
  ·exact ⟨some .ret, _, run_endLoop hl (by simp [hrc]), hstop _ pre _ (Nat.le_refl _) hSp (hIx.putObj _ hi (by omega) hl rfl) ((World.putObj_heap_other (by omega)).trans hd)⟩
end

end Go.Proofs.YtnpjgoklpaigjaaGreatDoor
