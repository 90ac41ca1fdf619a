/- Contracts of the laws' own small functions on clauses: how long, copied, compared. -/
import Derived.Test.YtmfamdonbgmjbaaDoorLAX
import Derived.Test.YtmfamdonbgmjbaaDoorKE
namespace Go.Proofs.YtmfamdonbgmjbaaDoor
set_option linter.unusedVariables false
set_option linter.unusedSimpArgs false
open Go.RowKit

theorem szCnf_any (S : Int) (a : Option Addr) (n c : Nat) (L Z : Int) (w : World) (hZ : Z = -1 ∨ 0 ≤ Z)
    (HC : Hid (∀ u, Below w.heap.size w u → Calls Tryd.prog 29 #[.slice a n c, .int .i64 L] u fun e w' => e = .returned (.int .i64 Z) ∧ Below u.heap.size u w')) :
    Calls Tryd.prog 7 #[.agg #[.int .i64 S, .slice a n c], .int .i64 L] w fun e w' => e = .returned (.int .i64 Z) ∧ Below w.heap.size w w' := by
  have hb0 : Below w.heap.size w (w.alloc (Obj.cells #[Value.int .i64 S, Value.slice a n c] 24)) := (Below.refl _ _).alloc (Nat.le_refl _) _
  rcases hZ with rfl | hZ
  · go_enter Tryd.func7, Tryd.ntmps7
    go_wp2_with fail
    refine Calls.mono (HC.out _ hb0) ?_
    rintro e w1 ⟨rfl, hb1⟩
    go_wp2_with fail
    go_ret
    exact ⟨rfl, hb0.trans (hb1.mono (by simp))⟩
  · go_enter Tryd.func7, Tryd.ntmps7
    go_wp2_with fail
    refine Calls.mono (HC.out _ hb0) ?_
    rintro e w1 ⟨rfl, hb1⟩
    go_wp2_with fail
    go_ret
    exact ⟨rfl, hb0.trans (hb1.mono (by simp))⟩

theorem eqCnf_same (S : Int) (a b : Option Addr) (c d : Nat) (xs ys : List Iw) (w : World) (hr : RdII w a xs) (hs : RdII w b ys) (he : xs.map Iw.ks = ys.map Iw.ks) (n : Nat) (h1 : xs.length = n) (h2 : ys.length = n) :
    Calls Tryd.prog 13 #[.agg #[.int .i64 S, .slice a n c], .agg #[.int .i64 S, .slice b n d]] w fun e w' => e = .returned (.bool true) ∧ Below w.heap.size w w' := by
  have hb2 : Below w.heap.size w ((w.alloc (Obj.cells #[Value.int .i64 S, Value.slice a n c] 29)).alloc (Obj.cells #[Value.int .i64 S, Value.slice b n d] 29)) := ((Below.refl _ _).alloc (Nat.le_refl _) _).alloc (by simp) _
  have HE := kide (eqInt64SS_same a b c d xs ys _ (hr.later hb2) (hs.later hb2) he n h1 h2)
  clear hr hs he h1 h2
  have hne : (S != S) = false := by simp
  go_enter Tryd.func13, Tryd.ntmps13
  go_wp2_with fail
  refine Calls.mono HE.out ?_
  rintro e w1 ⟨rfl, hb1⟩
  go_wp2_with fail
  go_ret
  exact ⟨rfl, hb2.trans (hb1.mono (by simp; omega))⟩

theorem toCnf_any (S : Int) (a : Option Addr) (c : Nat) (xs : List Iw) (w : World) (hr : RdII w a xs) (n : Nat) (hn : xs.length = n) :
    Calls Tryd.prog 9 #[.agg #[.int .i64 S, .slice a n c]] w fun e w' => ∃ (g : Nat) (ms : List Iw), e = .returned (.agg #[.int .i64 S, .slice (some ⟨g, 0, none⟩) n n]) ∧ ms.map Iw.ks = xs.map Iw.ks ∧ RdII w' (some ⟨g, 0, none⟩) ms ∧ Below w.heap.size w w' := by
  subst hn
  go_enter Tryd.func9, Tryd.ntmps9
  go_wp2_with fail
  refine (toInt64SS_any a c xs _ ?_).mono ?_
  · refine hr.later (Below.alloc (Below.alloc (Below.alloc (Below.refl _ _) ?_ _) ?_ _) ?_ _)
    all_goals first | exact Nat.le_refl _ | (simp; done) | (simp; omega)
  rintro e w1 ⟨ms, rfl, hms, hrd, hb⟩
  have hc := kcell hb
  have hz : w.heap.size + 1 + 1 < w1.heap.size := by have := hb.size; simp at this; omega
  have hf := kfroz hb
  have HO := kide hrd
  have HB := kide hb
  have HM := kide hms
  clear hrd hb hr hms
  go_wp2_with fail
  refine bodyPost_ret (v := .agg #[.int .i64 S, .slice (some ⟨w.heap.size + 1 + 1 + 1, 0, none⟩) xs.length xs.length]) (by simp [results, Tryd.results9, go_sem, hc]) rfl ⟨_, ms, rfl, HM.out, ?_, ?_⟩
  · have h := HO.out
    simp only [World.size_alloc] at h
    refine h _ fun g hg => ?_
    rw [heap_setCell_other _ _ _ _ (by simp; omega), heap_setCell_other _ _ _ _ (by simp; omega), heap_setCell_other _ _ _ _ (by simp; omega)]
  · have h := HB.out
    have h0 : Below w.heap.size w w1 := by
      refine Below.trans (Below.alloc (Below.alloc (Below.alloc (Below.refl _ _) ?_ _) ?_ _) ?_ _) (h.mono ?_)
      all_goals first | exact Nat.le_refl _ | (simp; done) | (simp; omega)
    exact ((h0.setCell (by simp; omega) _).setCell (by simp) _).setCell (by simp) _

end Go.Proofs.YtmfamdonbgmjbaaDoor
