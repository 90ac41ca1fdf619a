/- Whether two terms are the same word. -/
import Derived.Test.YtckidgpopbpagaaGreatDoorWDA
import Derived.Test.YtckidgpopbpagaaGreatDoorZGAO
import Derived.Test.YtckidgpopbpagaaGreatDoorZGAR
import Derived.Test.YtckidgpopbpagaaGreatDoorFLV
import Derived.Handy
namespace Go.Proofs.YtckidgpopbpagaaGreatDoor
set_option linter.unusedVariables false
set_option linter.unusedSimpArgs false
open Go.RowKit

def swR (ds : List Dc) (ns ms : List Tc) : Bool := (fltR ds ns).2 && (fltR ds ms).2 && fmEq (fltR ds ns).1 (fltR ds ms).1
theorem ss_told {w : World} {B : Nat} {v : Value} {l : List Sg} {X : List Sc} (h : Ss w B v l) (e : l.map Sg.ct = X) (ho : ∀ s ∈ X, okF s) (hl : X.length ≤ 2000) : ∃ a c, v = .slice a l.length c ∧ RdS w a l := by
  obtain ⟨a, c, rfl⟩ := h.1.form
  have hll : l.length ≤ 2000 := by rw [← e, List.length_map] at hl; exact hl
  exact ⟨a, c, rfl, h.rds (by omega) (okF_map e ho)⟩

set_option maxHeartbeats 2000000 in
set_option maxRecDepth 100000 in
theorem specSame_any (da sa ta : Option Addr) (dc sc tc n m : Nat) (ds : List Dc) (xs ys : List Tg) (w : World) (hd : RdD w da ds) (hs : RdT w sa xs) (hn : xs.length = n) (ht : RdT w ta ys) (hm : ys.length = m) :
    Calls Tryz.prog 6 #[.slice da ds.length dc, .agg #[.slice sa n sc], .agg #[.slice ta m tc]] w fun e w' => e = .returned (.bool (swR ds (xs.map Tg.ct) (ys.map Tg.ct))) ∧ Below w.heap.size w w' := by
  have s0 := Bb.start w (.cells #[Value.slice sa n sc] 33) (.cells #[Value.slice ta m tc] 33)
  have HFS := kide (fun u (hu : Below w.heap.size w u) => specFlatten_any da sa dc sc n ds xs u (hd.later hu) (hs.later hu) hn)
  have HFT := kide (fun u (hu : Below w.heap.size w u) => specFlatten_any da ta dc tc m ds ys u (hd.later hu) (ht.later hu) hm)
  obtain ⟨o1, o2⟩ := flt_ok ds (xs.map Tg.ct) hs.v64
  obtain ⟨p1, p2⟩ := flt_ok ds (ys.map Tg.ct) ht.v64
  unfold swR
  generalize fltR ds (xs.map Tg.ct) = A at *
  generalize fltR ds (ys.map Tg.ct) = B at *
  obtain ⟨A1, A2⟩ := A
  obtain ⟨B1, B2⟩ := B
  simp only [] at o1 o2 p1 p2 ⊢
  have HO := kide (And.intro o1 o2)
  have HP := kide (And.intro p1 p2)
  have S0 := kide s0
  generalize ds.length = nd at *
  clear hd hs ht hn hm o1 o2 p1 p2 s0
  go_enter Tryz.func6, Tryz.ntmps6
  have e1 := S0.out.one 0
  have e2 := S0.out.two 0
  simp at e1 e2
  go_wp2_with fail
  refine Calls.mono (HFS.out _ S0.out.below) ?_
  rintro e w2 ⟨v2, l2, rfl, hl2, hs2, hb2⟩
  have S2 := kide (S0.out.next hb2)
  have f1 := S2.out.one 0
  have f2 := S2.out.two 0
  simp at f1 f2
  have T2 := kide hs2
  have L2 := kide hl2
  clear hs2 hb2 hl2 e1 e2
  go_wp2_with fail
  refine Calls.mono (HFT.out _ S2.out.below) ?_
  rintro e w3 ⟨v3, l3, rfl, hl3, hs3, hb3⟩
  simp only [] at hl3
  have S3 := kide (S2.out.next hb3)
  obtain ⟨a2, c2, rfl, r2⟩ := ss_told (T2.out.later hb3) L2.out HO.out.1 HO.out.2
  obtain ⟨a3, c3, rfl, r3⟩ := ss_told hs3 hl3 HP.out.1 HP.out.2
  have HSM := kide (l14Same_any a2 a3 c2 c3 l2.length l3.length l2 l3 w3 r2 rfl r3 rfl)
  rw [L2.out, hl3] at HSM
  obtain ⟨Q, hQ⟩ : ∃ Q, fmEq A1 B1 = Q := ⟨_, rfl⟩
  rw [hQ] at HSM
  have HQQ := kide hQ
  clear hQ
  generalize l2.length = n2 at *
  generalize l3.length = n3 at *
  clear hb3 hs3 hl3 r2 r3 T2 f1 f2
  cases A2 with
  | false =>
    go_wp2_with fail
    go_ret
    exact ⟨rfl, S3.out.below⟩
  | true =>
    cases B2 with
    | false =>
      go_wp2_with fail
      go_ret
      exact ⟨rfl, S3.out.below⟩
    | true =>
      go_wp2_with fail
      refine Calls.mono HSM.out ?_
      rintro e w4 ⟨rfl, hb4⟩
      have S4 := kide (S3.out.next hb4)
      clear hb4
      go_wp2_with fail
      go_ret
      exact ⟨by rw [HQQ.out]; simp, S4.out.below⟩
set_option maxHeartbeats 2000000 in
set_option maxRecDepth 100000 in
theorem implSame_any (da sa ta : Option Addr) (dc sc tc n m : Nat) (ds : List Dc) (xs ys : List Tg) (w : World) (hd : RdD w da ds) (hs : RdT w sa xs) (hn : xs.length = n) (ht : RdT w ta ys) (hm : ys.length = m) (hG : GF w) (ws : Wl w xs) (wt : Wl w ys) :
    Calls Tryz.prog 9 #[.slice da ds.length dc, .agg #[.slice sa n sc], .agg #[.slice ta m tc]] w fun e w' => e = .returned (.bool (swR ds (xs.map Tg.ct) (ys.map Tg.ct))) ∧ Below w.heap.size w w' := by
  have s0 := Bb.start w (.cells #[Value.slice sa n sc] 33) (.cells #[Value.slice ta m tc] 33)
  have HFS := kide (fun u (hu : Below w.heap.size w u) => implFlatten_any da sa dc sc n ds xs u (hd.later hu) (hs.later hu) hn (hG.later hu) (fun x hx e => by obtain ⟨⟨q, e1, -⟩, -⟩ := ws x hx; rw [e1] at e; cases e) (fun x hx q hq => by obtain ⟨⟨q', e1, h1⟩, -⟩ := ws x hx; rw [e1] at hq; cases hq; exact Nat.lt_of_lt_of_le h1 hu.size) (fun x hx q hq => by obtain ⟨-, q', e1, h1⟩ := ws x hx; rw [e1] at hq; cases hq; exact Nat.lt_of_lt_of_le h1 hu.size))
  have HFT := kide (fun u (hu : Below w.heap.size w u) => implFlatten_any da ta dc tc m ds ys u (hd.later hu) (ht.later hu) hm (hG.later hu) (fun x hx e => by obtain ⟨⟨q, e1, -⟩, -⟩ := wt x hx; rw [e1] at e; cases e) (fun x hx q hq => by obtain ⟨⟨q', e1, h1⟩, -⟩ := wt x hx; rw [e1] at hq; cases hq; exact Nat.lt_of_lt_of_le h1 hu.size) (fun x hx q hq => by obtain ⟨-, q', e1, h1⟩ := wt x hx; rw [e1] at hq; cases hq; exact Nat.lt_of_lt_of_le h1 hu.size))
  obtain ⟨o1, o2⟩ := flt_ok ds (xs.map Tg.ct) hs.v64
  obtain ⟨p1, p2⟩ := flt_ok ds (ys.map Tg.ct) ht.v64
  have q1 := flt_okS ds (xs.map Tg.ct) hs.v64
  have q2 := flt_okS ds (ys.map Tg.ct) ht.v64
  unfold swR
  generalize fltR ds (xs.map Tg.ct) = A at *
  generalize fltR ds (ys.map Tg.ct) = B at *
  obtain ⟨A1, A2⟩ := A
  obtain ⟨B1, B2⟩ := B
  simp only [] at o1 o2 p1 p2 q1 q2 ⊢
  have HO := kide (And.intro o1 o2)
  have HP := kide (And.intro p1 p2)
  have HQ1 := kide q1
  have HQ2 := kide q2
  have S0 := kide s0
  generalize ds.length = nd at *
  clear hd hs ht hn hm o1 o2 p1 p2 s0 q1 q2 ws wt hG
  go_enter Tryz.func9, Tryz.ntmps9
  have e1 := S0.out.one 0
  have e2 := S0.out.two 0
  simp at e1 e2
  go_wp2_with fail
  refine Calls.mono (HFS.out _ S0.out.below) ?_
  rintro e w2 ⟨v2, l2, rfl, hl2, hs2, -, hb2⟩
  have S2 := kide (S0.out.next hb2)
  have f1 := S2.out.one 0
  have f2 := S2.out.two 0
  simp at f1 f2
  have T2 := kide hs2
  have L2 := kide hl2
  clear hs2 hb2 hl2 e1 e2
  go_wp2_with fail
  refine Calls.mono (HFT.out _ S2.out.below) ?_
  rintro e w3 ⟨v3, l3, rfl, hl3, hs3, -, hb3⟩
  simp only [] at hl3
  have S3 := kide (S2.out.next hb3)
  obtain ⟨a2, c2, rfl, r2⟩ := ss_told (T2.out.later hb3) L2.out HO.out.1 HO.out.2
  obtain ⟨a3, c3, rfl, r3⟩ := ss_told hs3 hl3 HP.out.1 HP.out.2
  have HSM := kide (sameForm_any a2 a3 c2 c3 l2.length l3.length l2 l3 w3 r2 rfl r3 rfl (fun x hx => HQ1.out _ (by rw [← L2.out]; exact List.mem_map_of_mem hx)) (fun x hx => HQ2.out _ (by rw [← hl3]; exact List.mem_map_of_mem hx)))
  rw [L2.out, hl3] at HSM
  obtain ⟨Q, hQ⟩ : ∃ Q, fmEq A1 B1 = Q := ⟨_, rfl⟩
  rw [hQ] at HSM
  have HQQ := kide hQ
  clear hQ
  generalize l2.length = n2 at *
  generalize l3.length = n3 at *
  clear hb3 hs3 hl3 r2 r3 T2 f1 f2
  cases A2 with
  | false =>
    go_wp2_with fail
    go_ret
    exact ⟨rfl, S3.out.below⟩
  | true =>
    cases B2 with
    | false =>
      go_wp2_with fail
      go_ret
      exact ⟨rfl, S3.out.below⟩
    | true =>
      go_wp2_with fail
      refine Calls.mono HSM.out ?_
      rintro e w4 ⟨rfl, hb4⟩
      have S4 := kide (S3.out.next hb4)
      clear hb4
      go_wp2_with fail
      go_ret
      exact ⟨by rw [HQQ.out]; simp, S4.out.below⟩
end Go.Proofs.YtckidgpopbpagaaGreatDoor
