/- Contract of the program's function that takes the next kid of the innermost open list. -/
import Derived.Test.YteainbakfeedpaaTJ
namespace Go.Proofs.Yteainbakfeedpaa
set_option linter.unusedVariables false
set_option linter.unusedSimpArgs false
open Go.RowKit

/-- An open list whose kids lie in an older world. -/
def KidIn (w0 : World) (o : Ol) : Prop := o.m ≤ o.ks.length ∧ RdI w0 o.a o.ks

theorem dropO_mem {st : List Ol} {o : Ol} (h : o ∈ dropO st) : o ∈ st := by
  induction st with
  | nil => exact h
  | cons x r ih =>
    rw [dropO] at h
    split at h
    · exact List.mem_cons_of_mem _ (ih h)
    · exact h

theorem dropO_top {st t : List Ol} {x : Ol} (h : dropO st = x :: t) : x.m ≠ x.ks.length := by
  induction st with
  | nil => cases h
  | cons y r ih =>
    rw [dropO] at h
    split at h
    · exact ih h
    · rename_i hn
      cases h
      exact hn

def Ol.bump (x : Ol) : Ol := ⟨x.a, x.c, x.ks, x.m + 1⟩

theorem oc_bump (x : Ol) (t : List Ol) : (oc (x :: t)).set (t.length * 2 + 1) (.int .i64 ((x.m : Int) + 1)) = oc (x.bump :: t) := by
  rw [oc, List.set_append_right _ _ (by rw [oc_len]; omega), oc_len, show t.length * 2 + 1 - t.length * 2 = 1 by omega, oc]
  simp [Ol.cells, Ol.bump]

theorem TopAt.owns {w : World} {B P g : Nat} {x : Ol} {t : List Ol} (h : TopAt w B P g x t) : ∃ cap, w.heap[P]? = some (.cells #[.slice (some ⟨g, 0, none⟩) (t.length + 1) cap] 77 (0, 0)) ∧ w.ownsRow B 82 2 (.slice (some ⟨g, 0, none⟩) (t.length + 1) cap) (t.length + 1) (oc (x :: t)) := by
  obtain ⟨cap, cur, hp, h1, h2, h3, h4, h5, h6⟩ := h
  exact ⟨cap, hp, oc_len (x :: t), .inr ⟨g, cap, cur, rfl, h1, h2, h3, h4, h5, h6⟩⟩

theorem TopAt.free {w : World} {B P g : Nat} {x : Ol} {t : List Ol} (h : TopAt w B P g x t) (j : Nat) : w.frozen? ⟨g, j, none⟩ = false := by
  obtain ⟨cap, -, ho⟩ := h.owns
  exact ho.frozenAt j

theorem TopAt.bumped {w : World} {B P g : Nat} {x : Ol} {t : List Ol} (hs : Stk w B P (x :: t)) (h : TopAt w B P g x t) :
    Stk (w.setCell ⟨g, t.length * 2 + 1, none⟩ (.int .i64 ((x.m : Int) + 1))) B P (x.bump :: t) ∧ Kept B P w (w.setCell ⟨g, t.length * 2 + 1, none⟩ (.int .i64 ((x.m : Int) + 1))) := by
  obtain ⟨hPB, hBs, hl, -⟩ := hs
  obtain ⟨cap, hp, ho⟩ := h.owns
  obtain ⟨h1, h2⟩ := ho.stored (t.length * 2 + 1) (.int .i64 ((x.m : Int) + 1))
  rw [oc_bump] at h1
  have hg := owns_block ho (k := g) rfl
  refine ⟨⟨hPB, by simpa using hBs, by simpa using hl, _, ?_, h1⟩, (Kept.refl B P w).grown h2 (fun k hk => by cases hk; exact hg)⟩
  rw [heap_setCell_other _ _ _ _ (by show P ≠ g; omega)]
  exact hp

theorem RdI.get {w : World} {a : Option Addr} {ks : List Int} (h : RdI w a ks) {i : Nat} (hi : i < ks.length) : ∃ b o, a = some ⟨b, o, none⟩ ∧ w.cell? ⟨b, o + i, none⟩ = some (.int .i64 (ks.getD i 0)) := by
  obtain ⟨-, -, h | ⟨b, o, rfl, hc⟩⟩ := h
  · subst h; simp at hi
  · exact ⟨b, o, rfl, hc i hi⟩

/-- What a kid is taken of. -/
def TakeR (w0 : World) (B P p : Nat) (st : List Ol) (r : Bool) (w' : World) : Prop := match dropO st with
  | [] => r = false
  | x :: t => if x.ks.getD x.m 0 = (p : Int) then r = true ∧ Stk w' B P (x.bump :: t) ∧ x.m < x.ks.length else r = false

set_option maxRecDepth 100000 in
theorem takeKid_any (w0 w : World) (B P p : Nat) (st : List Ol) (h : Stk w B P st) (hq : ∀ o ∈ st, KidIn w0 o) (hb : Below w0.heap.size w0 w) (h0 : w0.heap.size ≤ P) (hp : p ≤ 1048576) :
    Calls Try.prog 38 #[.pointer (some ⟨P, 0, none⟩), .int .i64 (p : Int)] w fun e w' => ∃ r, e = .returned (.bool r) ∧ Kept B P w w' ∧ TakeR w0 B P p st r w' := by
  have hPB := h.1
  have HDF := show Hid _ from dropFull_any w B P st h (fun o ho => ⟨by have := (hq o ho).1; have := (hq o ho).2.1; omega, (hq o ho).2.1⟩)
  cases hD : dropO st with
  | nil =>
    have HTR : Hid (∀ u, TakeR w0 B P p st false u) := fun u => by unfold TakeR; rw [hD]
    rw [hD] at HDF
    clear hq hD
    go_enter Try.func38, Try.ntmps38
    go_wp2_with fail
    refine Calls.mono HDF.out ?_
    rintro e w1 ⟨rfl, hs1, hk1⟩
    go_wp2_with (go_at_call 39; refine Calls.mono (stSize _ _ _ _ hs1) ?_; rintro e w2 ⟨rfl, rfl⟩)
    go_ret
    exact ⟨false, rfl, hk1, HTR.out _⟩
  | cons x t =>
    have HTN : Hid (x.ks.getD x.m 0 ≠ (p : Int) → ∀ u, TakeR w0 B P p st false u) := fun hn u => by unfold TakeR; rw [hD]; show (if _ then _ else _); rw [if_neg hn]
    have HTY : Hid (x.ks.getD x.m 0 = (p : Int) → x.m < x.ks.length → ∀ u, Stk u B P (x.bump :: t) → TakeR w0 B P p st true u) := fun hn hl u hu => by unfold TakeR; rw [hD]; show (if _ then _ else _); rw [if_pos hn]; exact ⟨rfl, hu, hl⟩
    rw [hD] at HDF
    have hx := hq x (dropO_mem (by rw [hD]; exact List.mem_cons_self ..))
    have hne := dropO_top hD
    obtain ⟨hx1, hx2⟩ := hx
    have hxl := hx2.1
    have hlt : x.m < x.ks.length := by omega
    obtain ⟨kb, ko, hka, hkc⟩ := hx2.get hlt
    have hkb : kb < w0.heap.size := block_lt_of_cell hkc
    have hlt' : (x.m : Int) < (x.ks.length : Int) := by omega
    have HKC : Hid _ := hkc
    clear hq hD hne hx2 hkc
    go_enter Try.func38, Try.ntmps38
    go_wp2_with fail
    refine Calls.mono HDF.out ?_
    rintro e w1 ⟨rfl, hs1, hk1⟩
    obtain ⟨g, ht⟩ := hs1.top
    obtain ⟨t0, t1⟩ := ht.cells
    have hl1 := hs1.2.2.1
    simp only [List.length_cons] at hl1
    have b1 := hk1.below hb h0 (by omega)
    have k1 : w1.cell? ⟨kb, ko + x.m, none⟩ = some (.int .i64 (x.ks.getD x.m 0)) := (b1.cell (by exact hkb)).trans HKC.out
    have hfz := ht.free (t.length * 2 + 1)
    have HT := show Hid _ from fun (u : World) (hu : TopAt u B P g x t) => stTop u B P g x t (by omega) hu
    have HBU := show Hid _ from fun (u : World) (hu : TopAt u B P g x t) (hv : Stk u B P (x :: t)) => TopAt.bumped hv hu
    rw [hka] at t0
    have HKA : Hid _ := hka
    generalize hkv : x.ks.getD x.m 0 = kv at *
    have HKV : Hid _ := hkv
    clear hkv hka
    go_wp2_with (go_at_call 39; refine Calls.mono (stSize _ _ _ _ hs1) ?_; rintro e w2 ⟨rfl, rfl⟩)
    refine Calls.mono (HT.out _ ht) ?_
    rintro e w3 ⟨rfl, n3, rfl⟩
    by_cases hv : kv = (p : Int)
    · have hne : (kv != (p : Int)) = false := by simpa using hv
      have HV : Hid _ := hv
      clear hv
      go_wp2_with fail
      go_region
      all_goals go_wp2_with fail
      go_ret
      obtain ⟨q1, q2⟩ := HBU.out (w2.drewN (n3 + 1)) ht hs1
      exact ⟨true, rfl, (hk1.drewN _).trans q2, HTY.out HV.out hlt _ q1⟩
    · have hne : (kv != (p : Int)) = true := by simpa using hv
      have HV : Hid _ := hv
      clear hv
      go_wp2_with fail
      go_region
      all_goals go_wp2_with fail
      go_ret
      exact ⟨false, rfl, hk1.drewN _, HTN.out (fun h => HV.out h) _⟩

end Go.Proofs.Yteainbakfeedpaa
