/- Several texts in one. -/
import Derived.Test.YtffcklobignlfaaGAF
import Derived.Test.YtffcklobignlfaaF7
import Derived.Test.YtffcklobignlfaaRX
import Derived.Test.YtffcklobignlfaaGAH
import Derived.Handy
import Derived.Test.YtffcklobignlfaaGAQ
import Derived.Test.YtffcklobignlfaaGAI
import Derived.Test.YtffcklobignlfaaGAM
import Derived.Test.YtffcklobignlfaaGAK
import Derived.Test.YtffcklobignlfaaFNW
namespace Go.Proofs.Ytffcklobignlfaa
open Go.RowKit
set_option linter.unusedVariables false
set_option linter.unusedSimpArgs false
set_option maxHeartbeats 2000000 in
set_option maxRecDepth 100000 in
theorem lawSame_any (a b : Option Addr) (c d n : Nat) (xs ys : List Sg) (w : World) (hr : RdS w a xs) (hn : xs.length = n) (hs : RdS w b ys) (he : xs.map Sg.ct = ys.map Sg.ct) :
  Calls Try.prog 8 #[.slice a n c, .slice b n d] w fun e w' => e = .returned (.bool true) ∧ Below w.heap.size w w' := by
 have HN := kide hn
 have HL : Hid (n ≤ 1048576) := by show _ ≤ _; rw [← hn]; exact hr.1
 have HR := kide hr
 have HS := kide hs
 have HE := kide he
 have hm : ys.length = n := by have := congrArg List.length he; simp [hn] at this; omega
 have HM := kide hm
 have hne : ((n : Int) != (n : Int)) = false := by simp
 clear hn hm hr hs he
 go_enter Try.func8, Try.ntmps8
 go_wp2_with fail
 clear hne
 go_loopw [5] (fun i wr => ∃ k : Nat, k ≤ n ∧ i = .int .i64 (k : Int) ∧ Below w.heap.size w wr) (fun i _ => n - (intOf i).toNat)
 case atStart => exact ⟨0, Nat.zero_le _, rfl, Below.refl _ _⟩
 case round =>
  obtain ⟨k, hk, rfl, hbel⟩ := hrel
  have HB := kide hbel
  by_cases hlt : k < n
  ·obtain ⟨-, h | ⟨b1, o1, rfl, hc1⟩⟩ := HR.out.later hbel
   ·have := HN.out; rw [h] at this; simp at this; omega
   obtain ⟨-, h | ⟨b2, o2, rfl, hc2⟩⟩ := HS.out.later hbel
   ·have := HM.out; rw [h] at this; simp at this; omega
   obtain ⟨x, gx⟩ : ∃ y, xs[k]? = some y := ⟨xs[k]'(by rw [HN.out]; exact hlt), List.getElem?_eq_getElem _⟩
   obtain ⟨y, gy⟩ : ∃ y, ys[k]? = some y := ⟨ys[k]'(by rw [HM.out]; exact hlt), List.getElem?_eq_getElem _⟩
   obtain ⟨⟨p0, p1, p2, p3, p4⟩, pr, -⟩ := hc1 k x gx
   obtain ⟨⟨q0, q1, q2, q3, q4⟩, qr, -⟩ := hc2 k y gy
   have hxy : x.ct = y.ct := by
    have h9 := congrArg (fun l => l[k]?) HE.out
    simp [gx, gy] at h9
    exact h9
   simp only [Sg.hd] at p0 p1 p2 p3 p4 q0 q1 q2 q3 q4
   rw [← hxy] at q0 q1 q2 q3 q4 qr
   have HSA := kide (fun u (hu : Below wr.heap.size wr u) => by
    have h9 := same_any x.ct.bw x.ct.bw x.a y.a x.c y.c x.ct.ws x.ct.ws u (pr.later hu) (qr.later hu)
    simpa using h9)
   obtain ⟨⟨v, lo, wd, bw, ws⟩, xa, xc⟩ := x
   obtain ⟨yct, ya, yc⟩ := y
   simp only [] at p0 p1 p2 p3 p4 q0 q1 q2 q3 q4 HSA
   generalize ws.length = n1 at *
   have i0 : (k : Int) < (n : Int) := by omega
   have HKL := kide hlt
   have l1 := block_lt_of_cell p0
   have l2 := block_lt_of_cell q0
   have t9 : IntKind.i64.wrap ((k : Int) + 1) = (k : Int) + 1 := by rw [IntKind.wrap_i64]; have := HL.out; omega
   have e1 : (v != v) = false := by simp
   have e2 : (lo != lo) = false := by simp
   have e3 : (wd != wd) = false := by simp
   clear hc1 hc2 gx gy hbel hk hlt pr qr hxy
   go_wp2_with fail
   refine wp_region_x (SA := fun _ => False) (SB := fun uu => Below wr.heap.size wr uu) (k := 999) (by kernel_rfl) ?_
   have hm0 : Hid (Below wr.heap.size wr wr.drew) := (Below.refl _ _).drew
   generalize wr.drew = m0 at *
   try go_simp
   refine tkB (T := fun uu => Below wr.heap.size wr uu) (i := 0) (v := Value.slice (some ⟨b1, o1, none⟩) n c) rfl (by kernel_rfl) (fun _ _ _ h => by first | exact h | exact h.elim) (fun _ h => h.elim) (fun _ h => h) (Sx.behind (by kernel_rfl) hm0.out) (Or.inl ⟨by rfl, fun uu hu => by go_simp⟩) ?_
   try go_simp
   refine tkB (T := fun uu => Below wr.heap.size wr uu) (i := 1) (v := Value.int .i64 (k : Int)) rfl (by kernel_rfl) (fun _ _ _ h => by first | exact h | exact h.elim) (fun _ h => h.elim) (fun _ h => h) (Sx.behind (by kernel_rfl) hm0.out) (Or.inl ⟨by rfl, fun uu hu => by go_simp⟩) ?_
   try go_simp
   refine tkB (T := fun uu => Below wr.heap.size wr uu) (i := 2) (v := Value.pointer (some ⟨b1, o1 + k * 5, none⟩)) rfl (by kernel_rfl) (fun _ _ _ h => by first | exact h | exact h.elim) (fun _ h => h.elim) (fun _ h => h) (Sx.behind (by kernel_rfl) hm0.out) (Or.inl ⟨by rfl, fun uu hu => by go_simp⟩) ?_
   try go_simp
   refine tkB (T := fun uu => Below wr.heap.size wr uu) (i := 3) (v := Value.pointer (some ⟨b1, o1 + k * 5, none⟩)) rfl (by kernel_rfl) (fun _ _ _ h => by first | exact h | exact h.elim) (fun _ h => h.elim) (fun _ h => h) (Sx.behind (by kernel_rfl) hm0.out) (Or.inl ⟨by rfl, fun uu hu => by go_simp⟩) ?_
   try go_simp
   refine tkB (T := fun uu => Below wr.heap.size wr uu) (i := 4) (v := Value.int .i64 v) rfl (by kernel_rfl) (fun _ _ _ h => by first | exact h | exact h.elim) (fun _ h => h.elim) (fun _ h => h) (Sx.behind (by kernel_rfl) hm0.out) (Or.inl ⟨by rfl, fun uu hu => by have e0 := (kcell hu b1 (o1 + k * 5) l1).trans p0; go_simp⟩) ?_
   try go_simp
   refine tkB (T := fun uu => Below wr.heap.size wr uu) (i := 5) (v := Value.slice (some ⟨b2, o2, none⟩) n d) rfl (by kernel_rfl) (fun _ _ _ h => by first | exact h | exact h.elim) (fun _ h => h.elim) (fun _ h => h) (Sx.behind (by kernel_rfl) hm0.out) (Or.inl ⟨by rfl, fun uu hu => by go_simp⟩) ?_
   try go_simp
   refine tkB (T := fun uu => Below wr.heap.size wr uu) (i := 6) (v := Value.int .i64 (k : Int)) rfl (by kernel_rfl) (fun _ _ _ h => by first | exact h | exact h.elim) (fun _ h => h.elim) (fun _ h => h) (Sx.behind (by kernel_rfl) hm0.out) (Or.inl ⟨by rfl, fun uu hu => by go_simp⟩) ?_
   try go_simp
   refine tkB (T := fun uu => Below wr.heap.size wr uu) (i := 7) (v := Value.pointer (some ⟨b2, o2 + k * 5, none⟩)) rfl (by kernel_rfl) (fun _ _ _ h => by first | exact h | exact h.elim) (fun _ h => h.elim) (fun _ h => h) (Sx.behind (by kernel_rfl) hm0.out) (Or.inl ⟨by rfl, fun uu hu => by go_simp⟩) ?_
   try go_simp
   refine tkB (T := fun uu => Below wr.heap.size wr uu) (i := 8) (v := Value.pointer (some ⟨b2, o2 + k * 5, none⟩)) rfl (by kernel_rfl) (fun _ _ _ h => by first | exact h | exact h.elim) (fun _ h => h.elim) (fun _ h => h) (Sx.behind (by kernel_rfl) hm0.out) (Or.inl ⟨by rfl, fun uu hu => by go_simp⟩) ?_
   try go_simp
   refine tkB (T := fun uu => Below wr.heap.size wr uu) (i := 9) (v := Value.int .i64 v) rfl (by kernel_rfl) (fun _ _ _ h => by first | exact h | exact h.elim) (fun _ h => h.elim) (fun _ h => h) (Sx.behind (by kernel_rfl) hm0.out) (Or.inl ⟨by rfl, fun uu hu => by have e0 := (kcell hu b2 (o2 + k * 5) l2).trans q0; go_simp⟩) ?_
   try go_simp
   refine tkB (T := fun uu => Below wr.heap.size wr uu) (i := 10) (v := Value.bool false) rfl (by kernel_rfl) (fun _ _ _ h => by first | exact h | exact h.elim) (fun _ h => h.elim) (fun _ h => h) (Sx.behind (by kernel_rfl) hm0.out) (Or.inl ⟨by rfl, fun uu hu => by go_simp⟩) ?_
   try go_simp
   refine tkB (T := fun uu => Below wr.heap.size wr uu) (i := 11) (v := Value.bool false) rfl (by kernel_rfl) (fun _ _ _ h => by first | exact h | exact h.elim) (fun _ h => h.elim) (fun _ h => h) (Sx.behind (by kernel_rfl) hm0.out) (Or.inl ⟨by rfl, fun uu hu => by go_simp⟩) ?_
   try go_simp
   refine tkB (T := fun uu => Below wr.heap.size wr uu) (i := 12) (v := Value.slice (some ⟨b1, o1, none⟩) n c) rfl (by kernel_rfl) (fun _ _ _ h => by first | exact h | exact h.elim) (fun _ h => h.elim) (fun _ h => h) (Sx.behind (by kernel_rfl) hm0.out) (Or.inl ⟨by rfl, fun uu hu => by go_simp⟩) ?_
   try go_simp
   refine tkB (T := fun uu => Below wr.heap.size wr uu) (i := 13) (v := Value.int .i64 (k : Int)) rfl (by kernel_rfl) (fun _ _ _ h => by first | exact h | exact h.elim) (fun _ h => h.elim) (fun _ h => h) (Sx.behind (by kernel_rfl) hm0.out) (Or.inl ⟨by rfl, fun uu hu => by go_simp⟩) ?_
   try go_simp
   refine tkB (T := fun uu => Below wr.heap.size wr uu) (i := 14) (v := Value.pointer (some ⟨b1, o1 + k * 5, none⟩)) rfl (by kernel_rfl) (fun _ _ _ h => by first | exact h | exact h.elim) (fun _ h => h.elim) (fun _ h => h) (Sx.behind (by kernel_rfl) hm0.out) (Or.inl ⟨by rfl, fun uu hu => by go_simp⟩) ?_
   try go_simp
   refine tkB (T := fun uu => Below wr.heap.size wr uu) (i := 15) (v := Value.pointer (some ⟨b1, o1 + k * 5 + 1, none⟩)) rfl (by kernel_rfl) (fun _ _ _ h => by first | exact h | exact h.elim) (fun _ h => h.elim) (fun _ h => h) (Sx.behind (by kernel_rfl) hm0.out) (Or.inl ⟨by rfl, fun uu hu => by go_simp⟩) ?_
   try go_simp
   refine tkB (T := fun uu => Below wr.heap.size wr uu) (i := 16) (v := Value.int .i64 lo) rfl (by kernel_rfl) (fun _ _ _ h => by first | exact h | exact h.elim) (fun _ h => h.elim) (fun _ h => h) (Sx.behind (by kernel_rfl) hm0.out) (Or.inl ⟨by rfl, fun uu hu => by have e0 := (kcell hu b1 (o1 + k * 5 + 1) l1).trans p1; go_simp⟩) ?_
   try go_simp
   refine tkB (T := fun uu => Below wr.heap.size wr uu) (i := 17) (v := Value.slice (some ⟨b2, o2, none⟩) n d) rfl (by kernel_rfl) (fun _ _ _ h => by first | exact h | exact h.elim) (fun _ h => h.elim) (fun _ h => h) (Sx.behind (by kernel_rfl) hm0.out) (Or.inl ⟨by rfl, fun uu hu => by go_simp⟩) ?_
   try go_simp
   refine tkB (T := fun uu => Below wr.heap.size wr uu) (i := 18) (v := Value.int .i64 (k : Int)) rfl (by kernel_rfl) (fun _ _ _ h => by first | exact h | exact h.elim) (fun _ h => h.elim) (fun _ h => h) (Sx.behind (by kernel_rfl) hm0.out) (Or.inl ⟨by rfl, fun uu hu => by go_simp⟩) ?_
   try go_simp
   refine tkB (T := fun uu => Below wr.heap.size wr uu) (i := 19) (v := Value.pointer (some ⟨b2, o2 + k * 5, none⟩)) rfl (by kernel_rfl) (fun _ _ _ h => by first | exact h | exact h.elim) (fun _ h => h.elim) (fun _ h => h) (Sx.behind (by kernel_rfl) hm0.out) (Or.inl ⟨by rfl, fun uu hu => by go_simp⟩) ?_
   try go_simp
   refine tkB (T := fun uu => Below wr.heap.size wr uu) (i := 20) (v := Value.pointer (some ⟨b2, o2 + k * 5 + 1, none⟩)) rfl (by kernel_rfl) (fun _ _ _ h => by first | exact h | exact h.elim) (fun _ h => h.elim) (fun _ h => h) (Sx.behind (by kernel_rfl) hm0.out) (Or.inl ⟨by rfl, fun uu hu => by go_simp⟩) ?_
   try go_simp
   refine tkB (T := fun uu => Below wr.heap.size wr uu) (i := 21) (v := Value.int .i64 lo) rfl (by kernel_rfl) (fun _ _ _ h => by first | exact h | exact h.elim) (fun _ h => h.elim) (fun _ h => h) (Sx.behind (by kernel_rfl) hm0.out) (Or.inl ⟨by rfl, fun uu hu => by have e0 := (kcell hu b2 (o2 + k * 5 + 1) l2).trans q1; go_simp⟩) ?_
   try go_simp
   refine tkB (T := fun uu => Below wr.heap.size wr uu) (i := 22) (v := Value.bool false) rfl (by kernel_rfl) (fun _ _ _ h => by first | exact h | exact h.elim) (fun _ h => h.elim) (fun _ h => h) (Sx.behind (by kernel_rfl) hm0.out) (Or.inl ⟨by rfl, fun uu hu => by go_simp⟩) ?_
   try go_simp
   refine tkB (T := fun uu => Below wr.heap.size wr uu) (i := 23) (v := Value.bool false) rfl (by kernel_rfl) (fun _ _ _ h => by first | exact h | exact h.elim) (fun _ h => h.elim) (fun _ h => h) (Sx.behind (by kernel_rfl) hm0.out) (Or.inl ⟨by rfl, fun uu hu => by go_simp⟩) ?_
   try go_simp
   refine tkB (T := fun uu => Below wr.heap.size wr uu) (i := 24) (v := Value.bool false) rfl (by kernel_rfl) (fun _ _ _ h => by first | exact h | exact h.elim) (fun _ h => h.elim) (fun _ h => h) (Sx.behind (by kernel_rfl) hm0.out) (Or.inl ⟨by rfl, fun uu hu => by go_simp⟩) ?_
   try go_simp
   refine tkB (T := fun uu => Below wr.heap.size wr uu) (i := 25) (v := Value.slice (some ⟨b1, o1, none⟩) n c) rfl (by kernel_rfl) (fun _ _ _ h => by first | exact h | exact h.elim) (fun _ h => h.elim) (fun _ h => h) (Sx.behind (by kernel_rfl) hm0.out) (Or.inl ⟨by rfl, fun uu hu => by go_simp⟩) ?_
   try go_simp
   refine tkB (T := fun uu => Below wr.heap.size wr uu) (i := 26) (v := Value.int .i64 (k : Int)) rfl (by kernel_rfl) (fun _ _ _ h => by first | exact h | exact h.elim) (fun _ h => h.elim) (fun _ h => h) (Sx.behind (by kernel_rfl) hm0.out) (Or.inl ⟨by rfl, fun uu hu => by go_simp⟩) ?_
   try go_simp
   refine tkB (T := fun uu => Below wr.heap.size wr uu) (i := 27) (v := Value.pointer (some ⟨b1, o1 + k * 5, none⟩)) rfl (by kernel_rfl) (fun _ _ _ h => by first | exact h | exact h.elim) (fun _ h => h.elim) (fun _ h => h) (Sx.behind (by kernel_rfl) hm0.out) (Or.inl ⟨by rfl, fun uu hu => by go_simp⟩) ?_
   try go_simp
   refine tkB (T := fun uu => Below wr.heap.size wr uu) (i := 28) (v := Value.pointer (some ⟨b1, o1 + k * 5 + 2, none⟩)) rfl (by kernel_rfl) (fun _ _ _ h => by first | exact h | exact h.elim) (fun _ h => h.elim) (fun _ h => h) (Sx.behind (by kernel_rfl) hm0.out) (Or.inl ⟨by rfl, fun uu hu => by go_simp⟩) ?_
   try go_simp
   refine tkB (T := fun uu => Below wr.heap.size wr uu) (i := 29) (v := Value.int .i64 wd) rfl (by kernel_rfl) (fun _ _ _ h => by first | exact h | exact h.elim) (fun _ h => h.elim) (fun _ h => h) (Sx.behind (by kernel_rfl) hm0.out) (Or.inl ⟨by rfl, fun uu hu => by have e0 := (kcell hu b1 (o1 + k * 5 + 2) l1).trans p2; go_simp⟩) ?_
   try go_simp
   refine tkB (T := fun uu => Below wr.heap.size wr uu) (i := 30) (v := Value.slice (some ⟨b2, o2, none⟩) n d) rfl (by kernel_rfl) (fun _ _ _ h => by first | exact h | exact h.elim) (fun _ h => h.elim) (fun _ h => h) (Sx.behind (by kernel_rfl) hm0.out) (Or.inl ⟨by rfl, fun uu hu => by go_simp⟩) ?_
   try go_simp
   refine tkB (T := fun uu => Below wr.heap.size wr uu) (i := 31) (v := Value.int .i64 (k : Int)) rfl (by kernel_rfl) (fun _ _ _ h => by first | exact h | exact h.elim) (fun _ h => h.elim) (fun _ h => h) (Sx.behind (by kernel_rfl) hm0.out) (Or.inl ⟨by rfl, fun uu hu => by go_simp⟩) ?_
   try go_simp
   refine tkB (T := fun uu => Below wr.heap.size wr uu) (i := 32) (v := Value.pointer (some ⟨b2, o2 + k * 5, none⟩)) rfl (by kernel_rfl) (fun _ _ _ h => by first | exact h | exact h.elim) (fun _ h => h.elim) (fun _ h => h) (Sx.behind (by kernel_rfl) hm0.out) (Or.inl ⟨by rfl, fun uu hu => by go_simp⟩) ?_
   try go_simp
   refine tkB (T := fun uu => Below wr.heap.size wr uu) (i := 33) (v := Value.pointer (some ⟨b2, o2 + k * 5 + 2, none⟩)) rfl (by kernel_rfl) (fun _ _ _ h => by first | exact h | exact h.elim) (fun _ h => h.elim) (fun _ h => h) (Sx.behind (by kernel_rfl) hm0.out) (Or.inl ⟨by rfl, fun uu hu => by go_simp⟩) ?_
   try go_simp
   refine tkB (T := fun uu => Below wr.heap.size wr uu) (i := 34) (v := Value.int .i64 wd) rfl (by kernel_rfl) (fun _ _ _ h => by first | exact h | exact h.elim) (fun _ h => h.elim) (fun _ h => h) (Sx.behind (by kernel_rfl) hm0.out) (Or.inl ⟨by rfl, fun uu hu => by have e0 := (kcell hu b2 (o2 + k * 5 + 2) l2).trans q2; go_simp⟩) ?_
   try go_simp
   refine tkB (T := fun uu => Below wr.heap.size wr uu) (i := 35) (v := Value.bool false) rfl (by kernel_rfl) (fun _ _ _ h => by first | exact h | exact h.elim) (fun _ h => h.elim) (fun _ h => h) (Sx.behind (by kernel_rfl) hm0.out) (Or.inl ⟨by rfl, fun uu hu => by go_simp⟩) ?_
   try go_simp
   refine tkB (T := fun uu => Below wr.heap.size wr uu) (i := 36) (v := Value.bool false) rfl (by kernel_rfl) (fun _ _ _ h => by first | exact h | exact h.elim) (fun _ h => h.elim) (fun _ h => h) (Sx.behind (by kernel_rfl) hm0.out) (Or.inl ⟨by rfl, fun uu hu => by go_simp⟩) ?_
   try go_simp
   refine tkB (T := fun uu => Below wr.heap.size wr uu) (i := 37) (v := Value.bool false) rfl (by kernel_rfl) (fun _ _ _ h => by first | exact h | exact h.elim) (fun _ h => h.elim) (fun _ h => h) (Sx.behind (by kernel_rfl) hm0.out) (Or.inl ⟨by rfl, fun uu hu => by go_simp⟩) ?_
   try go_simp
   refine tkB (T := fun uu => Below wr.heap.size wr uu) (i := 38) (v := Value.slice (some ⟨b1, o1, none⟩) n c) rfl (by kernel_rfl) (fun _ _ _ h => by first | exact h | exact h.elim) (fun _ h => h.elim) (fun _ h => h) (Sx.behind (by kernel_rfl) hm0.out) (Or.inl ⟨by rfl, fun uu hu => by go_simp⟩) ?_
   try go_simp
   refine tkB (T := fun uu => Below wr.heap.size wr uu) (i := 39) (v := Value.int .i64 (k : Int)) rfl (by kernel_rfl) (fun _ _ _ h => by first | exact h | exact h.elim) (fun _ h => h.elim) (fun _ h => h) (Sx.behind (by kernel_rfl) hm0.out) (Or.inl ⟨by rfl, fun uu hu => by go_simp⟩) ?_
   try go_simp
   refine tkB (T := fun uu => Below wr.heap.size wr uu) (i := 40) (v := Value.pointer (some ⟨b1, o1 + k * 5, none⟩)) rfl (by kernel_rfl) (fun _ _ _ h => by first | exact h | exact h.elim) (fun _ h => h.elim) (fun _ h => h) (Sx.behind (by kernel_rfl) hm0.out) (Or.inl ⟨by rfl, fun uu hu => by go_simp⟩) ?_
   try go_simp
   refine tkB (T := fun uu => Below wr.heap.size wr uu) (i := 41) (v := Value.pointer (some ⟨b1, o1 + k * 5 + 3, none⟩)) rfl (by kernel_rfl) (fun _ _ _ h => by first | exact h | exact h.elim) (fun _ h => h.elim) (fun _ h => h) (Sx.behind (by kernel_rfl) hm0.out) (Or.inl ⟨by rfl, fun uu hu => by go_simp⟩) ?_
   try go_simp
   refine tkB (T := fun uu => Below wr.heap.size wr uu) (i := 42) (v := Value.agg #[.int .i64 bw, .slice xa n1 xc]) rfl (by kernel_rfl) (fun _ _ _ h => by first | exact h | exact h.elim) (fun _ h => h.elim) (fun _ h => h) (Sx.behind (by kernel_rfl) hm0.out) (Or.inl ⟨by rfl, fun uu hu => by have e0 := (kcell hu b1 (o1 + k * 5 + 3) l1).trans p3; have e1 := (kcell hu b1 (o1 + k * 5 + 4) l1).trans p4; go_simp⟩) ?_
   try go_simp
   refine tkB (T := fun uu => Below wr.heap.size wr uu) (i := 43) (v := Value.slice (some ⟨b2, o2, none⟩) n d) rfl (by kernel_rfl) (fun _ _ _ h => by first | exact h | exact h.elim) (fun _ h => h.elim) (fun _ h => h) (Sx.behind (by kernel_rfl) hm0.out) (Or.inl ⟨by rfl, fun uu hu => by go_simp⟩) ?_
   try go_simp
   refine tkB (T := fun uu => Below wr.heap.size wr uu) (i := 44) (v := Value.int .i64 (k : Int)) rfl (by kernel_rfl) (fun _ _ _ h => by first | exact h | exact h.elim) (fun _ h => h.elim) (fun _ h => h) (Sx.behind (by kernel_rfl) hm0.out) (Or.inl ⟨by rfl, fun uu hu => by go_simp⟩) ?_
   try go_simp
   refine tkB (T := fun uu => Below wr.heap.size wr uu) (i := 45) (v := Value.pointer (some ⟨b2, o2 + k * 5, none⟩)) rfl (by kernel_rfl) (fun _ _ _ h => by first | exact h | exact h.elim) (fun _ h => h.elim) (fun _ h => h) (Sx.behind (by kernel_rfl) hm0.out) (Or.inl ⟨by rfl, fun uu hu => by go_simp⟩) ?_
   try go_simp
   refine tkB (T := fun uu => Below wr.heap.size wr uu) (i := 46) (v := Value.pointer (some ⟨b2, o2 + k * 5 + 3, none⟩)) rfl (by kernel_rfl) (fun _ _ _ h => by first | exact h | exact h.elim) (fun _ h => h.elim) (fun _ h => h) (Sx.behind (by kernel_rfl) hm0.out) (Or.inl ⟨by rfl, fun uu hu => by go_simp⟩) ?_
   try go_simp
   refine tkB (T := fun uu => Below wr.heap.size wr uu) (i := 47) (v := Value.agg #[.int .i64 bw, .slice ya n1 yc]) rfl (by kernel_rfl) (fun _ _ _ h => by first | exact h | exact h.elim) (fun _ h => h.elim) (fun _ h => h) (Sx.behind (by kernel_rfl) hm0.out) (Or.inl ⟨by rfl, fun uu hu => by have e0 := (kcell hu b2 (o2 + k * 5 + 3) l2).trans q3; have e1 := (kcell hu b2 (o2 + k * 5 + 4) l2).trans q4; go_simp⟩) ?_
   try go_simp
   refine wpAnyX_ready (rs := [48]) (by kernel_rfl) (by simp) (AllX.cons rfl (fun K hK => ?_) AllX.nil)
   go_simp
   refine Calls.mono (HSA.out m0 hm0.out) ?_
   rintro e m1 ⟨rfl, hb⟩
   have hm1 : Hid (Below wr.heap.size wr m1) := hm0.out.trans (hb.mono hm0.out.size)
   refine hK _ _ (Sx.behind (by kernel_rfl) hm1.out) ?_
   clear hK K hb
   try go_simp
   refine tkB (T := fun uu => Below wr.heap.size wr uu) (i := 49) (v := Value.bool false) rfl (by kernel_rfl) (fun _ _ _ h => by first | exact h | exact h.elim) (fun _ h => h.elim) (fun _ h => h) (Sx.behind (by kernel_rfl) hm1.out) (Or.inl ⟨by rfl, fun uu hu => by go_simp⟩) ?_
   try go_simp
   refine tkB (T := fun uu => Below wr.heap.size wr uu) (i := 50) (v := Value.bool false) rfl (by kernel_rfl) (fun _ _ _ h => by first | exact h | exact h.elim) (fun _ h => h.elim) (fun _ h => h) (Sx.behind (by kernel_rfl) hm1.out) (Or.inl ⟨by rfl, fun uu hu => by go_simp⟩) ?_
   try go_simp
   refine wpAnyX_done (by kernel_rfl) ?_ _
   have B9 := kide (HB.out.trans (hm1.out.mono HB.out.size))
   go_wp2_with fail
   go_roundw
   case rel => exact ⟨k + 1, HKL.out, rfl, B9.out⟩
   case measure => have := HKL.out; simp only [intOf]; omega
  ·have i0 : ¬ (k : Int) < (n : Int) := by omega
   clear hbel hk hlt
   go_wp2_with fail
   go_ret
   exact ⟨rfl, HB.out⟩
set_option maxHeartbeats 1000000 in
theorem specFlat_any (a da : Option Addr) (c dc n : Nat) (ds : List Dc) (xs : List Sg) (w : World) (hd : RdD w da ds) (hr : RdS w a xs) (hn : xs.length = n) :
  Calls Try.prog 15 #[.slice da ds.length dc, .slice a n c] w fun e w' => e = .returned (.bool (flatR ds (xs.map Sg.ct))) ∧ Below w.heap.size w w' := by
 have HDC := kide (specDecls_any da dc ds w hd)
 have hl1 := hd.1
 have hl2 := hr.1
 rw [hn] at hl2
 rw [flatR_form]
 cases hD : dclR ds with
 | false =>
  rw [hD] at HDC
  clear hD
  go_enter Try.func15, Try.ntmps15
  go_wp2_with fail
  refine Calls.mono HDC.out ?_
  rintro e w1 ⟨rfl, hb1⟩
  go_wp2_with fail
  go_ret
  exact ⟨rfl, hb1⟩
 | true =>
  rw [hD] at HDC
  by_cases h1 : n < 1
  ·have hR : (true && formR ds (xs.map Sg.ct)) = false := by
    have : xs = [] := List.eq_nil_of_length_eq_zero (by omega)
    simp [formR, this]
   rw [hR]
   clear hR hD
   go_enter Try.func15, Try.ntmps15
   go_wp2_with fail
   refine Calls.mono HDC.out ?_
   rintro e w1 ⟨rfl, hb1⟩
   go_wp2_with fail
   go_ret
   exact ⟨rfl, hb1⟩
  by_cases h2 : 2000 < n
  ·have hR : (true && formR ds (xs.map Sg.ct)) = false := by
    have h : decide ((xs.map Sg.ct).length ≤ 2000) = false := decide_eq_false (by simp; omega)
    simp only [formR, h]; simp
   rw [hR]
   clear hR hD
   go_enter Try.func15, Try.ntmps15
   go_wp2_with fail
   refine Calls.mono HDC.out ?_
   rintro e w1 ⟨rfl, hb1⟩
   go_wp2_with fail
   go_ret
   exact ⟨rfl, hb1⟩
  generalize hZ : flAt ds (xs.map Sg.ct) 0 = Z
  have hR : (true && formR ds (xs.map Sg.ct)) = (Z && decide (sumS ((xs.map Sg.ct).take n) ≤ 4096)) := by
   have e1 : decide (1 ≤ (xs.map Sg.ct).length) = true := decide_eq_true (by simp; omega)
   have e2 : decide ((xs.map Sg.ct).length ≤ 2000) = true := decide_eq_true (by simp; omega)
   rw [List.take_of_length_le (by simp [hn])]
   simp only [formR, e1, e2, hZ, Bool.true_and]
  rw [hR]
  have HZ := kide hZ
  have HD := kide hd
  have HR := kide hr
  have HN := kide hn
  have HDCL := kide hD
  clear hZ hR hd hr hn hD
  go_enter Try.func15, Try.ntmps15
  go_wp2_with fail
  refine Calls.mono HDC.out ?_
  rintro e w1 ⟨rfl, hb1⟩
  have B1 := kide hb1
  clear hb1 HDC
  go_wp2_with fail
  go_loopw [5, 6] (fun q i wr => ∃ k : Nat, k ≤ n ∧ i = .int .i64 (k : Int) ∧ q = .int .i64 (sumS ((xs.map Sg.ct).take k)) ∧ 0 ≤ sumS ((xs.map Sg.ct).take k) ∧ sumS ((xs.map Sg.ct).take k) ≤ 4096 * (k : Int) ∧ flAt ds (xs.map Sg.ct) k = Z ∧ (∀ (i : Nat) (x : Sg), i < k → xs[i]? = some x → sgOk ds x.ct = true) ∧ Below w.heap.size w wr) (fun _ i _ => n - (intOf i).toNat)
  case atStart => exact ⟨0, Nat.zero_le _, rfl, by simp [sumS], by simp [sumS], by simp [sumS], HZ.out, fun i x h => by omega, B1.out⟩
  case round =>
   obtain ⟨k, hk, rfl, rfl, hq0, hq1, hz, hall, hbel⟩ := hrel
   have HB := kide hbel
   have HAL := kide hall
   by_cases hlt : k < n
   ·obtain ⟨-, h | ⟨b2, o2, rfl, hc2⟩⟩ := HR.out
    ·have := HN.out; subst h; simp at this; omega
    obtain ⟨⟨s, a1, c1⟩, gx⟩ : ∃ x, xs[k]? = some x := ⟨xs[k]'(by rw [HN.out]; exact hlt), List.getElem?_eq_getElem _⟩
    obtain ⟨⟨p0, p1, p2, p3, p4⟩, pr, -⟩ := (hc2 k _ gx).later hbel
    simp only [Sg.hd] at p0 p1 p2 p3 p4 pr
    have HOK := kide (l5Seg_any s a1 da c1 dc ds wr pr (HD.out.later hbel) HDCL.out)
    have GX := kide gx
    have gct : (xs.map Sg.ct)[k]? = some s := by rw [List.getElem?_map, gx]; rfl
    have hst := sumS_take gct
    have HST := kide hst
    have i0 : (k : Int) < (n : Int) := by omega
    have lb2 : b2 < wr.heap.size := block_lt_of_cell p0
    generalize sumS ((xs.map Sg.ct).take k) = Q at *
    cases hok : sgOk ds s with
    | false =>
     rw [hok] at HOK
     have HF : Hid (Z = false) := by
      show _ = _
      rw [← hz]
      cases k with
      | zero => rw [flAt_zero gct, hok]; rfl
      | succ k =>
       have hq : (xs.map Sg.ct)[k]? = some _ := List.getElem?_eq_getElem (by simp; have := HN.out; omega)
       rw [flAt_succ hq gct, hok]; rfl
     obtain ⟨v, lo, wd, bw, ws⟩ := s
     simp only [] at p0 p1 p2 p3 p4 HOK
     clear hc2 gx gct hz hall hbel HZ pr hok GX hst HST
     go_wp2_with fail
     refine Calls.mono HOK.out ?_
     rintro e w3 ⟨rfl, hb3⟩
     go_wp2_with fail
     go_ret
     exact ⟨ret_bool (by rw [HF.out]; rfl), HB.out.trans (hb3.mono HB.out.size)⟩
    | true =>
     rw [hok] at HOK
     have hbs := sgOk_bounds HDCL.out hok
     have HOKS := kide hok
     cases k with
     | zero =>
      rw [flAt_zero gct, hok, Bool.true_and] at hz
      have HZ1 := kide hz
      rw [Nat.zero_mul, Nat.add_zero] at p0 p1 p2 p3 p4
      obtain ⟨v, lo, wd, bw, ws⟩ := s
      simp only [] at p0 p1 p2 p3 p4 HOK hst hbs HST
      obtain ⟨hb1', hb2', -, -⟩ := hbs
      clear hc2 gx gct hz hall hbel HZ pr hok hst
      go_wp2_with fail
      refine Calls.mono HOK.out ?_
      rintro e w3 ⟨rfl, hb3⟩
      have x0 := (kcell hb3 b2 o2 lb2).trans p0
      have x1 := (kcell hb3 b2 (o2 + 1) lb2).trans p1
      have x2 := (kcell hb3 b2 (o2 + 2) lb2).trans p2
      have HB3 := kide (HB.out.trans (hb3.mono HB.out.size))
      clear hb3 p0 p1 p2 p3 p4
      go_wp2_with fail
      go_quiet (fail)
      go_wp2_with fail
      go_roundw
      case rel =>
       refine ⟨1, by omega, by go_num, by rw [HST.out], by rw [HST.out]; omega, by rw [HST.out]; omega, HZ1.out, fun i x hi hx => ?_, below_drewN HB3.out _⟩
       have : i = 0 := by omega
       subst this
       rw [GX.out] at hx
       cases hx
       exact HOKS.out
      case measure => simp [intOf]; omega
     | succ j =>
      obtain ⟨⟨s2, a2, cc2⟩, gx2⟩ : ∃ x, xs[j]? = some x := ⟨xs[j]'(by rw [HN.out]; omega), List.getElem?_eq_getElem _⟩
      obtain ⟨⟨q0, q1, q2, -⟩, -⟩ := (hc2 j _ gx2).later hbel
      simp only [Sg.hd] at q0 q1 q2
      have gct2 : (xs.map Sg.ct)[j]? = some s2 := by rw [List.getElem?_map, gx2]; rfl
      have hs2 := hall j _ (by omega) gx2
      simp only [] at hs2
      have hbd := sgOk_bounds HDCL.out hs2
      rw [flAt_succ gct2 gct, hok, Bool.true_and] at hz
      have HZ1 := kide hz
      have j1 : (j : Int) < (n : Int) := by omega
      have hwr1 : IntKind.i64.wrap (j : Int) = (j : Int) := kwrap (by omega)
      have hwr2 : IntKind.i64.wrap ((j : Int) + 1 - 1) = (j : Int) := (kwrap (by omega)).trans (by omega)
      obtain ⟨v, lo, wd, bw, ws⟩ := s
      obtain ⟨v2, lo2, wd2, bw2, ws2⟩ := s2
      simp only [oneB] at p0 p1 p2 p3 p4 q0 q1 q2 HOK HZ1 hbs hbd HST
      obtain ⟨hb1', hb2', hb3', hb4'⟩ := hbs
      obtain ⟨hb5, hb6, hb7, hb8⟩ := hbd
      have hwr4 : IntKind.i64.wrap (lo2 + wd2) = lo2 + wd2 := kwrap (by omega)
      clear hc2 gx gx2 gct gct2 hz hall hbel HZ pr hok hs2 hst
      go_wp2_with fail
      refine Calls.mono HOK.out ?_
      rintro e w3 ⟨rfl, hb3⟩
      have x0 := (kcell hb3 b2 (o2 + (j + 1) * 5) lb2).trans p0
      have x1 := (kcell hb3 b2 (o2 + (j + 1) * 5 + 1) lb2).trans p1
      have x2 := (kcell hb3 b2 (o2 + (j + 1) * 5 + 2) lb2).trans p2
      have y0 := (kcell hb3 b2 (o2 + j * 5) lb2).trans q0
      have y1 := (kcell hb3 b2 (o2 + j * 5 + 1) lb2).trans q1
      have y2 := (kcell hb3 b2 (o2 + j * 5 + 2) lb2).trans q2
      have HB3 := kide (HB.out.trans (hb3.mono HB.out.size))
      clear hb3 p0 p1 p2 p3 p4 q0 q1 q2
      by_cases hvv : v = v2
      ·have e1 : (v == v2) = true := by simp [hvv]
       by_cases hv1 : v = -1
       ·have e2 : (v == -1) = true := by simp [hv1]
        have HF : Hid (Z = false) := by have h := HZ1.out; simp [← hvv, hv1] at h; exact h
        clear hvv hv1
        go_wp2_with fail
        go_quiet (fail)
        go_wp2_with fail
        go_ret
        exact ⟨ret_bool (by rw [HF.out]; rfl), below_drewN HB3.out _⟩
       ·have e2 : (v == -1) = false := by simp [hv1]
        by_cases hlw : lo = lo2 + wd2
        ·have e3 : (lo == lo2 + wd2) = true := by simp [hlw]
         have HF : Hid (Z = false) := by have h := HZ1.out; simp [← hvv, hv1, ← hlw] at h; exact h
         clear hvv hv1 hlw
         go_wp2_with fail
         go_quiet (fail)
         go_wp2_with fail
         go_ret
         exact ⟨ret_bool (by rw [HF.out]; rfl), below_drewN HB3.out _⟩
        ·have e3 : (lo == lo2 + wd2) = false := by simp [hlw]
         have HF : Hid (flAt ds (xs.map Sg.ct) (j + 1 + 1) = Z) := by
          have h := HZ1.out
          have h5 : ¬ lo2 + wd2 = lo := fun h => hlw h.symm
          simp [← hvv, hv1, h5] at h; exact h
         clear hvv hv1 hlw
         go_wp2_with fail
         go_quiet (fail)
         go_wp2_with fail
         go_roundw
         case rel =>
          refine ⟨j + 1 + 1, by omega, by go_num, by rw [HST.out], by rw [HST.out]; omega, by rw [HST.out]; omega, HF.out, fun i x hi hx => ?_, below_drewN HB3.out _⟩
          by_cases hij : i = j + 1
          ·subst hij
           rw [GX.out] at hx
           cases hx
           exact HOKS.out
          ·exact HAL.out i x (by omega) hx
         case measure => simp [intOf]; omega
      ·have e1 : (v == v2) = false := by simp [hvv]
       have HF : Hid (flAt ds (xs.map Sg.ct) (j + 1 + 1) = Z) := by
        have h := HZ1.out
        have h5 : ¬ v2 = v := fun h => hvv h.symm
        simp [h5] at h; exact h
       clear hvv
       go_wp2_with fail
       go_quiet (fail)
       go_wp2_with fail
       go_roundw
       case rel =>
        refine ⟨j + 1 + 1, by omega, by go_num, by rw [HST.out], by rw [HST.out]; omega, by rw [HST.out]; omega, HF.out, fun i x hi hx => ?_, below_drewN HB3.out _⟩
        by_cases hij : i = j + 1
        ·subst hij
         rw [GX.out] at hx
         cases hx
         exact HOKS.out
        ·exact HAL.out i x (by omega) hx
       case measure => simp [intOf]; omega
   ·have e : k = n := by omega
    have hZt : Z = true := by
     rw [← hz, e, ← HN.out]
     have := flAt_end (ds := ds) (fs := xs.map Sg.ct)
     rwa [List.length_map] at this
    subst hZt
    subst e
    generalize hQ : sumS ((xs.map Sg.ct).take k) = Q at *
    have HQ := kide hQ
    clear hz hall hbel HZ hQ
    go_wp2_with fail
    go_ret
    exact ⟨ret_bool (by rw [HQ.out]; simp), HB.out⟩

def fptR (ds : List Dc) (fs : List Sc) (hi lo : Int) : List Sc × Bool := if flatR ds fs = true ∧ 0 ≤ lo ∧ lo ≤ hi ∧ hi < sumS fs then (formB (((formP fs).drop lo.toNat).take (hi.toNat + 1 - lo.toNat)), true) else ([], false)
theorem formP_in {ds : List Dc} {fs : List Sc} (hd : dclR ds = true) (h : ∀ s ∈ fs, sgOk ds s = true) : ∀ p ∈ formP fs, (p.1 < 0 → 0 ≤ p.2 ∧ p.2 ≤ 1) ∧ (¬ p.1 < 0 → 0 ≤ p.2 ∧ p.2 ≤ 4096) := fun p hp => by
 obtain ⟨s, hs, hp⟩ := List.mem_flatMap.1 hp
 obtain ⟨k, hk, rfl⟩ := List.mem_map.1 hp
 have hk' := List.mem_range.1 hk
 have hb := sgOk_bounds hd (h s hs)
 unfold segP
 by_cases e : s.v < 0
 ·rw [if_pos e]
  refine ⟨fun _ => ?_, fun h9 => absurd (by simp : ((-1 : Int), _).1 < 0) h9⟩
  simp only []
  cases tb s.ws k <;> simp
 ·rw [if_neg e]
  refine ⟨fun h9 => absurd h9 e, fun _ => ?_⟩
  have e1 : s.v ≠ -1 := by omega
  obtain ⟨a, b, c, d, f⟩ := sgOk_vr (h s hs) e1
  have hw : (ds.getD s.v.toNat (.empty, 0)).2 ≤ 4096 := by
   have hl : s.v.toNat < ds.length := by omega
   have := dclR_wd hd (k := s.v.toNat) (List.getElem?_eq_getElem hl)
   simp [List.getD, hl]
   exact this.2
  simp only []
  omega
set_option maxHeartbeats 1000000 in
set_option maxRecDepth 100000 in
theorem specFPart_any (da fa : Option Addr) (dc fc nf : Nat) (ds : List Dc) (xs : List Sg) (hi lo : Int) (w : World) (hd : RdD w da ds) (hr : RdS w fa xs) (hnf : xs.length = nf) (hi1 : in64 hi) (lo1 : in64 lo) :
  Calls Try.prog 6 #[.slice da ds.length dc, .slice fa nf fc, .int .i64 hi, .int .i64 lo] w (RetF (fptR ds (xs.map Sg.ct) hi lo) w) := by
 have HFO := kide (specFlat_any fa da fc dc nf ds xs w hd hr hnf)
 have hwd := rds_words hr
 obtain ⟨R, hR⟩ : ∃ R, fptR ds (xs.map Sg.ct) hi lo = R := ⟨_, rfl⟩
 rw [hR]
 have HR := kide hR
 obtain ⟨nd, hnd⟩ : ∃ n, ds.length = n := ⟨_, rfl⟩
 rw [hnd] at HFO ⊢
 cases hF : flatR ds (xs.map Sg.ct) with
 | false =>
  rw [hF] at HFO
  obtain rfl : R = ([], false) := by rw [← hR]; unfold fptR; rw [if_neg]; simp [hF]
  clear hR hF
  go_enter Try.func6, Try.ntmps6
  go_wp2_with fail
  refine Calls.mono HFO.out ?_
  rintro e w2 ⟨rfl, hb2⟩
  have B2 := kide hb2
  clear hb2
  go_wp2_with fail
  exact bodyPost_ret (v := .tuple #[.slice (some ⟨w2.heap.size, 0, none⟩) 0 0, .bool false]) (by simp [results, Try.results6, go_sem]) rfl ⟨_, [], rfl, rfl, ⟨OS5.empty w2 _ B2.out.size, by simp⟩, B2.out.trans (((Below.refl _ _).alloc (Nat.le_refl _) _).mono B2.out.size)⟩
 | true =>
  rw [hF] at HFO
  have hF2 := hF
  rw [flatR_form] at hF2
  simp only [Bool.and_eq_true] at hF2
  obtain ⟨hall, hs1, hs2, hl2⟩ := formR_sum hF2.1 hF2.2
  have HL5 := kide (fun u (hu : Below w.heap.size w u) => l5Bits_any fa fc nf ds xs u (hr.later hu) hnf hF2.1 hF2.2)
  have hfl := formP_len (xs.map Sg.ct) (fun s hs => by have := (hall s hs).2.1; omega)
  have HIN := kide (formP_in hF2.1 (fun s hs => (hall s hs).1))
  have HNF := kide (formB_nf (Nf.of hF hwd))
  have HLE : Hid ((xs.map Sg.ct).length ≤ 2000) := hl2
  obtain ⟨PS, hPS⟩ : ∃ PS, formP (xs.map Sg.ct) = PS := ⟨_, rfl⟩
  rw [hPS] at HL5 hfl HIN HNF
  obtain ⟨N, hN⟩ : ∃ N, PS.length = N := ⟨_, rfl⟩
  rw [hN] at hfl
  have HPS := kide hPS
  have HN := kide hN
  have hN2 : N ≤ 4096 := by omega
  have HRV : Hid (R = if 0 ≤ lo ∧ lo ≤ hi ∧ hi < (N : Int) then (formB ((PS.drop lo.toNat).take (hi.toNat + 1 - lo.toNat)), true) else ([], false)) := by
   show _ = _
   rw [← hR]
   unfold fptR
   rw [hPS, hfl, hF]
   simp
  clear hR hF hF2 hall hs1 hs2 hl2 hPS hN hr hd HR hwd hfl
  have HI1 := kide hi1
  have LO1 := kide lo1
  unfold in64 at hi1 lo1
  go_enter Try.func6, Try.ntmps6
  go_wp2_with fail
  refine Calls.mono HFO.out ?_
  rintro e w2 ⟨rfl, hb2⟩
  have B2 := kide hb2
  clear hb2
  go_wp2_with fail
  refine Calls.mono (HL5.out w2 B2.out) ?_
  rintro e w3 ⟨v3, rfl, ho3, hb3⟩
  have B3 := kide (B2.out.trans (hb3.mono B2.out.size))
  obtain ⟨a3, c3, rfl, hrp⟩ := ho3.rdp (by rw [HN.out]; omega)
  rw [HN.out] at ho3 ⊢
  by_cases hc : 0 ≤ lo ∧ lo ≤ hi ∧ hi < (N : Int)
  ·obtain ⟨h1, h2, h3⟩ := hc
   obtain ⟨L, rfl⟩ : ∃ L : Nat, lo = (L : Int) := ⟨lo.toNat, by omega⟩
   obtain ⟨H, rfl⟩ : ∃ H : Nat, hi = (H : Int) := ⟨hi.toNat, by omega⟩
   rw [if_pos ⟨h1, h2, h3⟩] at HRV
   simp only [Int.toNat_natCast] at HRV
   obtain ⟨g, rfl⟩ : ∃ g, a3 = some ⟨g, 0, none⟩ := by
    rcases ho3.2 with ⟨e9, h9⟩ | ⟨g, cap, cur, e9, -⟩
    ·have := HN.out; omega
    ·cases e9; exact ⟨g, rfl⟩
   have hcap : N ≤ c3 := by
    rcases ho3.2 with ⟨e9, h9⟩ | ⟨g, cap, cur, e9, -, -, hc1, -⟩
    ·cases e9
    ·cases e9; rw [HN.out] at hc1; exact hc1
   have RP := kide (rdp_slice (lo := L) (n := H + 1 - L) (m := 0) hrp (by rw [HN.out]; omega))
   have HLF := kide (fun (pc : Nat) => l5Form_any (some ⟨g, L * 2, none⟩) pc (H + 1 - L) ((PS.drop L).take (H + 1 - L)) w3 RP.out (by simp [HN.out]; omega) (by omega) (fun p hp => by
    have h9 := HIN.out p (List.mem_of_mem_drop (List.mem_of_mem_take hp))
    exact ⟨h9.1, fun e => h9.2 (by omega)⟩))
   have HLN : Hid ((formB ((PS.drop L).take (H + 1 - L))).length ≤ 2000) := by
    have h9 := formB_part PS L (H + 1 - L)
    rw [HNF.out] at h9
    exact Nat.le_trans h9 HLE.out
   clear ho3 hrp hb3 HL5 HFO
   have hHw : IntKind.i64.wrap ((H : Int) + 1) = (H : Int) + 1 := by rw [IntKind.wrap_i64]; first | omega | (unfold wrap64; omega)
   have q1 : ¬ (L : Int) < 0 := by omega
   have q2 : ¬ (H : Int) < (L : Int) := by omega
   have q3 : ¬ (H : Int) ≥ (N : Int) := by omega
   obtain rfl := HRV.out
   go_wp2_with fail
   refine Calls.mono (HLF.out (c3 - L)) ?_
   rintro e w4 ⟨v4, l4, rfl, hm4, hs4, hb4⟩
   have hl4 : decide (l4.length ≤ 2000) = true := by
    have h9 := congrArg List.length hm4
    rw [List.length_map] at h9
    exact decide_eq_true (by rw [h9]; exact HLN.out)
   rw [hl4]
   have S4 : Hid (Ss w4 w.heap.size v4 l4) := ⟨hs4.1.low B3.out.size, fun x hx => (hs4.2 x hx).mono B3.out.size⟩
   have B4 := kide (B3.out.trans (hb4.mono B3.out.size))
   have M4 := kide hm4
   clear hs4 hb4 hm4 hl4
   go_wp2_with fail
   exact bodyPost_ret (v := .tuple #[v4, .bool true]) (by simp [results, Try.results6, go_sem]) rfl ⟨_, l4, rfl, M4.out, S4.out, B4.out⟩
  ·rw [if_neg hc] at HRV
   obtain rfl := HRV.out
   clear ho3 hrp hb3 HL5 HFO
   by_cases q1 : lo < 0
   ·go_wp2_with fail
    exact bodyPost_ret (v := .tuple #[.slice (some ⟨w3.heap.size, 0, none⟩) 0 0, .bool false]) (by simp [results, Try.results6, go_sem]) rfl ⟨_, [], rfl, rfl, ⟨OS5.empty w3 _ B3.out.size, by simp⟩, B3.out.trans (((Below.refl _ _).alloc (Nat.le_refl _) _).mono B3.out.size)⟩
   by_cases q2 : hi < lo
   ·go_wp2_with fail
    exact bodyPost_ret (v := .tuple #[.slice (some ⟨w3.heap.size, 0, none⟩) 0 0, .bool false]) (by simp [results, Try.results6, go_sem]) rfl ⟨_, [], rfl, rfl, ⟨OS5.empty w3 _ B3.out.size, by simp⟩, B3.out.trans (((Below.refl _ _).alloc (Nat.le_refl _) _).mono B3.out.size)⟩
   have q3 : hi ≥ (N : Int) := by omega
   go_wp2_with fail
   exact bodyPost_ret (v := .tuple #[.slice (some ⟨w3.heap.size, 0, none⟩) 0 0, .bool false]) (by simp [results, Try.results6, go_sem]) rfl ⟨_, [], rfl, rfl, ⟨OS5.empty w3 _ B3.out.size, by simp⟩, B3.out.trans (((Below.refl _ _).alloc (Nat.le_refl _) _).mono B3.out.size)⟩

theorem formP_64 {ds : List Dc} {fs : List Sc} (hd : dclR ds = true) (h : ∀ s ∈ fs, sgOk ds s = true) (hv : ∀ s ∈ fs, in64 s.v) : ∀ p ∈ formP fs, in64 p.1 ∧ in64 p.2 := fun p hp => by
 have h9 := formP_in hd h p hp
 obtain ⟨s, hs, hp⟩ := List.mem_flatMap.1 hp
 obtain ⟨k, hk, rfl⟩ := List.mem_map.1 hp
 have h8 := hv s hs
 refine ⟨?_, ?_⟩
 ·unfold segP
  split
  ·unfold in64; simp
  ·exact h8
 ·unfold in64
  by_cases e : (segP s k).1 < 0
  ·have := h9.1 e; omega
  ·have := h9.2 e; omega
theorem fpt_ok {ds : List Dc} {fs : List Sc} {hi lo : Int} (hk : ∀ s ∈ fs, okF s) : (∀ s ∈ (fptR ds fs hi lo).1, okF s) ∧ (fptR ds fs hi lo).1.length ≤ 2000 := by
 unfold fptR
 split
 ·rename_i h
  have hF2 := h.1
  rw [flatR_form] at hF2
  simp only [Bool.and_eq_true] at hF2
  obtain ⟨hall, hs1, hs2, hl2⟩ := formR_sum hF2.1 hF2.2
  have hfl := formP_len fs (fun s hs => by have := (hall s hs).2.1; omega)
  refine ⟨formB_ok _ _ (Nat.le_refl _) (by rw [List.length_take, List.length_drop]; omega) (fun p hp => formP_64 hF2.1 (fun s hs => (hall s hs).1) (fun s hs => (hk s hs).1) p (List.mem_of_mem_drop (List.mem_of_mem_take hp))), ?_⟩
  have h9 := formB_part (formP fs) lo.toNat (hi.toNat + 1 - lo.toNat)
  rw [formB_nf (Nf.of h.1 (fun s hs => (hk s hs).2.2.2.2.2))] at h9
  exact Nat.le_trans h9 hl2
 ·simp

end Go.Proofs.Ytffcklobignlfaa
