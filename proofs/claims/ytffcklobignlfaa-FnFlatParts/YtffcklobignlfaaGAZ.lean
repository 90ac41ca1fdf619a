/- Several texts in one. -/
import Derived.Test.YtffcklobignlfaaGAX
import Derived.Handy
import Derived.Test.YtffcklobignlfaaFPF
import Derived.Test.YtffcklobignlfaaGAU
import Derived.Test.YtffcklobignlfaaGAM
import Derived.Test.YtffcklobignlfaaGAK
namespace Go.Proofs.Ytffcklobignlfaa
set_option linter.unusedVariables false
set_option linter.unusedSimpArgs false
open Go.RowKit
def Dj (l : List Sg) : Prop := ∀ (i j : Nat) (x y : Sg), i < j → l[i]? = some x → l[j]? = some y → ∀ p q, x.a = some p → y.a = some q → p.block ≠ q.block
theorem Dj.nil : Dj [] := fun i j x y _ h => by simp at h
theorem Dj.snoc {N : Nat} {l : List Sg} {x : Sg} (h : Dj l) (hl : ∀ y ∈ l, ∀ p, y.a = some p → p.block < N) (hx : ∀ p, x.a = some p → N ≤ p.block) : Dj (l ++ [x]) := fun i j y z hij hi hj p q hp hq => by
 have hjl := (List.getElem?_eq_some_iff.1 hj).1
 simp at hjl
 by_cases e : j = l.length
 ·subst e
  rw [List.getElem?_append_left (by omega)] at hi
  simp at hj
  subst hj
  have := hl y (List.mem_of_getElem? hi) p hp
  have := hx q hq
  omega
 ·rw [List.getElem?_append_left (by omega)] at hi hj
  exact h i j y z hij hi hj p q hp hq
theorem os5_mid {w : World} {B g n c M : Nat} {k t : List Sg} {y : Sg} (h : OS5 w B (.slice (some ⟨g, 0, none⟩) n c) (k ++ y :: t)) (hM : k.length = M) :
  w.cell? ⟨g, M * 5, none⟩ = some (.int .i64 y.ct.v) ∧ w.cell? ⟨g, M * 5 + 1, none⟩ = some (.int .i64 y.ct.lo) ∧ w.cell? ⟨g, M * 5 + 2, none⟩ = some (.int .i64 y.ct.wd) ∧ w.cell? ⟨g, M * 5 + 3, none⟩ = some (.int .i64 y.ct.bw) ∧ w.cell? ⟨g, M * 5 + 4, none⟩ = some (.slice y.a y.ct.ws.length y.c) := by
 have key : ∀ (j : Nat) (u : Value), (sgc [y])[j]? = some u → w.cell? ⟨g, M * 5 + j, none⟩ = some u := fun j u hj => by
  have hl : (sgc k).length = M * 5 := by rw [sgc_len, hM]
  have hj5 : j < (sgc [y]).length := (List.getElem?_eq_some_iff.1 hj).1
  have hc := World.ownsRow.cells h (g := g) rfl (M * 5 + j) u (by rw [sgc_append, List.getElem?_append_right (by omega), hl, Nat.add_sub_cancel_left, show y :: t = [y] ++ t from rfl, sgc_append, List.getElem?_append_left hj5]; exact hj)
  rw [Addr.add_lit] at hc
  simpa using hc
 exact ⟨key 0 _ rfl, key 1 _ rfl, key 2 _ rfl, key 3 _ rfl, key 4 _ rfl⟩
theorem os5_put2i {w : World} {B g n c M : Nat} {k t : List Sg} {y z : Sg} (h : OS5 w B (.slice (some ⟨g, 0, none⟩) n c) (k ++ y :: t)) (hM : k.length = M) (hz : z.ct = y.ct) : OS5 (put2 w g (M * 5) z) B (.slice (some ⟨g, 0, none⟩) n c) (k ++ z :: t) ∧ w.grownBy (put2 w g (M * 5) z) (some g) := by
 obtain ⟨a, c', e⟩ := h.form
 cases e
 have s1 := World.ownsRow.stored h (M * 5 + 3) (.int .i64 z.ct.bw)
 have s2 := World.ownsRow.stored s1.1 (M * 5 + 4) (.slice z.a z.ct.ws.length z.c)
 refine ⟨?_, grown_same s1.2 s2.2⟩
 have hl : (sgc k).length = M * 5 := by rw [sgc_len, hM]
 have e : sgc (k ++ z :: t) = ((sgc (k ++ y :: t)).set (M * 5 + 3) (.int .i64 z.ct.bw)).set (M * 5 + 4) (.slice z.a z.ct.ws.length z.c) := by
  rw [sgc_append, sgc_append]
  simp [sgc, List.set_append, hl, hz]
 have h9 := s2.1
 unfold OS5
 rw [e, show (k ++ z :: t).length = (k ++ y :: t).length by simp]
 exact h9
theorem nw_gr {w w' : World} {lo : Nat} {a : Option Addr} {xs : List Nat} {r : Option Nat} (h : Nw w lo a xs) (hg : w.grownBy w' r) (hr : ∀ j, r = some j → j < lo) : Nw w' lo a xs := by
 have key : ∀ b, lo ≤ b → b < w.heap.size → w'.heap[b]? = w.heap[b]? := fun b h1 h2 => hg.block b h2 (fun e => by have := hr b e.symm; omega)
 rcases h with ⟨h1, h2⟩ | ⟨g, cur, h1, h2, h3, h4⟩
 ·exact .inl ⟨h1, fun x hx => by
   obtain ⟨k1, k2, cur, k3⟩ := h2 x hx
   exact ⟨k1, k2, cur, by rw [key _ k1 (lt_of_block k3)]; exact k3⟩⟩
 ·exact .inr ⟨g, cur, h1, h2, by rw [key _ h2 (lt_of_block h3)]; exact h3, h4⟩

structure Fh (w : World) (B : Nat) (v : Value) (l : List Sg) (k : Nat) (m : List Sg) (wr : World) : Prop where
 row : OS5 wr B v (m ++ l.drop k)
 ct : m.map Sg.ct = (l.take k).map Sg.ct
 len : m.length = k
 nw : ∀ x ∈ m, Nw wr w.heap.size x.a x.ct.ws
 dj : Dj m
 no : ∀ x ∈ m, x.a = none → x.c = 0
 gr : w.grownBy wr v.ownBlock
def RetFr (v : Value) (ok : Bool) (B : Nat) (l : List Sg) (w : World) (e : Ending) (w' : World) : Prop := e = .returned (.tuple #[v, .bool ok]) ∧ ∃ m, Fh w B v l l.length m w'
set_option maxHeartbeats 2000000 in
set_option maxRecDepth 100000 in
theorem fresh_any (va : Option Addr) (N vc B : Nat) (ok : Bool) (l : List Sg) (w : World) (hrow : OS5 w B (.slice va N vc) l) (hN : l.length = N) (hN2 : N ≤ 2000) (hB : B ≤ w.heap.size) (hrd : ∀ x ∈ l, Rd w x.a x.ct.ws) (hno : ∀ x ∈ l, x.a = none → x.c = 0) (hne : ∀ x ∈ l, ∀ p, x.a = some p → (Value.slice va N vc).ownBlock ≠ some p.block) :
  Calls Try.prog 20 #[.slice va N vc, .bool ok] w (RetFr (.slice va N vc) ok B l w) := by
 have HROW := kide hrow
 have HN := kide hN
 have HRD := kide hrd
 have HNO := kide hno
 have HNE := kide hne
 clear hrow hN hrd hno hne
 go_enter Try.func20, Try.ntmps20
 go_wp2_with fail
 have H0 : Hid (Fh w B (.slice va N vc) l 0 [] w) := ⟨HROW.out, rfl, rfl, fun x hx => by (cases hx), Dj.nil, fun x hx => by (cases hx), ⟨rfl, rfl, rfl, Nat.le_refl _, fun _ _ _ => rfl⟩⟩
 go_loopw [10] (fun i wr => ∃ (k : Nat) (m : List Sg), k ≤ N ∧ i = .int .i64 (k : Int) ∧ Fh w B (.slice va N vc) l k m wr) (fun i _ => N - (intOf i).toNat)
 case atStart => exact ⟨0, [], Nat.zero_le _, rfl, H0.out⟩
 case round =>
  obtain ⟨k, m, hk, rfl, hf⟩ := hrel
  have HF := kide hf
  by_cases hlt : k < N
  ·obtain ⟨x, hx⟩ : ∃ x, l[k]? = some x := ⟨l[k]'(by rw [HN.out]; exact hlt), List.getElem?_eq_getElem _⟩
   have hdr : l.drop k = x :: l.drop (k + 1) := by
    have h9 := List.getElem?_eq_some_iff.1 hx
    rw [← h9.2, List.drop_eq_getElem_cons h9.1]
   have hrow := hf.row
   rw [hdr] at hrow
   obtain ⟨g, rfl⟩ : ∃ g, va = some ⟨g, 0, none⟩ := by
    rcases hrow.2 with ⟨e, h9⟩ | ⟨g, cap, cur, e, -⟩
    ·simp at h9
    ·cases e; exact ⟨g, rfl⟩
   obtain ⟨c0, c1, c2, c3, c4⟩ := os5_mid hrow hf.len
   have hmem := List.mem_of_getElem? hx
   have hrr : Rd wr x.a x.ct.ws := rd_gr (HRD.out x hmem) hf.gr (HNE.out x hmem)
   have lg := (hrow.lt (b := g) rfl).2
   have lg0 := (HROW.out.lt (b := g) rfl).2
   have BA : Hid (Below wr.heap.size wr (wr.alloc (Obj.cells #[.int .i64 x.ct.v, .int .i64 x.ct.lo, .int .i64 x.ct.wd, .int .i64 x.ct.bw, .slice x.a x.ct.ws.length x.c] 34))) := (Below.refl _ _).alloc (Nat.le_refl _) _
   have HCP := kide (fun u (hu : Below wr.heap.size wr u) => copyO x.ct.bw x.a x.c x.ct.ws.length x.ct.ws u (hrr.later hu) rfl (HNO.out x hmem))
   have HROW2 := kide hrow
   have hkN : (k : Int) < (N : Int) := by omega
   have hk0 : (k : Int) ≥ 0 := by omega
   have hkw : IntKind.i64.wrap ((k : Int) + 1) = (k : Int) + 1 := by rw [IntKind.wrap_i64]; omega
   have HDR := kide hdr
   have HX := kide hx
   clear hx hdr hf hrow hmem hrr
   go_wp2_with fail
   refine Calls.mono (HCP.out _ BA.out) ?_
   rintro e V ⟨a2, c2', rfl, ho2, hb2⟩
   have b2 := BA.out.trans (hb2.mono BA.out.size)
   have hrV := HROW2.out.later b2
   obtain ⟨k0, k1, k2, k3, k4⟩ := os5_mid hrV HF.out.len
   obtain ⟨cur9, hcur9⟩ := hrV.typed (b := g) rfl
   have z3 := frozen_of_row V g (k * 5 + 3) cur9 _ hcur9
   have z4 := frozen_of_row V g (k * 5 + 4) cur9 _ hcur9
   obtain ⟨Y, hYc, hYa, hYd⟩ : ∃ Y : Sg, Y.ct = x.ct ∧ Y.a = a2 ∧ Y.c = c2' := ⟨⟨x.ct, a2, c2'⟩, rfl, rfl, rfl⟩
   subst hYa hYd
   have hU : (V.setCell ⟨g, k * 5 + 3, none⟩ (Value.int .i64 x.ct.bw)).setCell ⟨g, k * 5 + 4, none⟩ (Value.slice Y.a x.ct.ws.length Y.c) = put2 V g (k * 5) Y := by unfold put2; rw [hYc]
   obtain ⟨P1, P2⟩ := os5_put2i hrV HF.out.len hYc
   have hg1 : w.grownBy V (some g) := ⟨b2.os.trans HF.out.gr.os, b2.tape.trans HF.out.gr.tape, b2.output.trans HF.out.gr.output, Nat.le_trans HF.out.gr.size b2.size, fun j hj hn => (b2.block j (Nat.lt_of_lt_of_le hj HF.out.gr.size)).trans (HF.out.gr.block j hj hn)⟩
   have hlow : w.heap.size ≤ (wr.alloc (Obj.cells #[.int .i64 x.ct.v, .int .i64 x.ct.lo, .int .i64 x.ct.wd, .int .i64 x.ct.bw, .slice x.a x.ct.ws.length x.c] 34)).heap.size := Nat.le_trans HF.out.gr.size BA.out.size
   have hnY : Nw V (wr.alloc (Obj.cells #[.int .i64 x.ct.v, .int .i64 x.ct.lo, .int .i64 x.ct.wd, .int .i64 x.ct.bw, .slice x.a x.ct.ws.length x.c] 34)).heap.size Y.a x.ct.ws := by
    obtain ⟨a9, c9, e9, h9⟩ := ho2.shape
    cases e9
    exact h9
   have hnoY : Y.a = none → Y.c = 0 := fun e9 => by
    rcases ho2.2 with ⟨e8, -⟩ | ⟨g9, cap9, cur9, e8, -⟩
    ·exact (Value.slice.inj e8).2.2
    ·have := (Value.slice.inj e8).1
     rw [e9] at this
     cases this
   have NX : Hid (Fh w B (.slice (some ⟨g, 0, none⟩) N vc) l (k + 1) (m ++ [Y]) (put2 V g (k * 5) Y)) := by
    refine ⟨by rw [List.append_assoc]; exact P1, ?_, by rw [List.length_append, HF.out.len]; rfl, ?_, ?_, fun y hy => ?_, grown_same hg1 P2⟩
    ·rw [List.map_append, HF.out.ct, List.take_add_one, HX.out, Option.toList_some, List.map_append, show [Y].map Sg.ct = [x].map Sg.ct by simp [hYc]]
    ·intro y hy
     refine nw_gr ?_ P2 (fun j hj => by cases hj; exact lg0)
     rcases List.mem_append.1 hy with hy | hy
     ·exact (HF.out.nw y hy).later b2
     ·rw [List.mem_singleton.1 hy, hYc]
      exact hnY.mono hlow
    ·refine HF.out.dj.snoc (N := wr.heap.size) (fun y hy p hp => (nw_lt (HF.out.nw y hy) hp).2) (fun p hp => ?_)
     have := (nw_lt hnY hp).1
     have := BA.out.size
     omega
    ·rcases List.mem_append.1 hy with hy | hy
     ·exact HF.out.no y hy
     ·rw [List.mem_singleton.1 hy]
      exact hnoY
   clear ho2 hb2 b2 hrV P1 P2 hg1 hlow hnY hcur9 hYc hnoY
   go_wp2_with fail
   go_roundw
   case rel => exact ⟨k + 1, m ++ [Y], by omega, rfl, NX.out⟩
   case measure => simp only [intOf]; omega
  ·obtain rfl : k = N := by omega
   clear hf
   go_wp2_with fail
   refine bodyPost_ret (v := .tuple #[.slice va k vc, .bool ok]) (by simp [results, Try.results20, go_sem]) rfl ⟨rfl, m, ?_⟩
   rw [HN.out]
   exact HF.out
def RetFd (R : List Sc × Bool) (w : World) (e : Ending) (w' : World) : Prop := ∃ v l, e = .returned (.tuple #[v, .bool R.2]) ∧ l.map Sg.ct = R.1 ∧ Ss w' w.heap.size v l ∧ Dj l ∧ Below w.heap.size w w'
def RetFdN (R : List Sc × Bool) (w : World) (e : Ending) (w' : World) : Prop := ∃ v l, e = .returned (.tuple #[v, .bool R.2]) ∧ l.map Sg.ct = R.1 ∧ Ss w' w.heap.size v l ∧ Dj l ∧ Below w.heap.size w w' ∧ ∀ x ∈ l, x.a = none → x.c = 0
open Go.RowKit Go.Shelf
set_option maxHeartbeats 2000000 in
set_option maxRecDepth 100000 in
theorem implPartFN_any (da fa : Option Addr) (dc fc nf : Nat) (ds : List Dc) (xs : List Sg) (hi lo : Int) (w : World) (hd : RdD w da ds) (hr : RdS w fa xs) (hnf : xs.length = nf) (hno : ∀ x ∈ xs, x.a = none → x.c = 0) (hpl : ∀ x ∈ xs, ∀ q, x.a = some q → q.block < w.heap.size) (hi1 : in64 hi) (lo1 : in64 lo) :
  Calls Try.prog 7 #[.slice da ds.length dc, .slice fa nf fc, .int .i64 hi, .int .i64 lo] w (RetFdN (fptR ds (xs.map Sg.ct) hi lo) w) := by
 have HFO := kide (implFlat_any fa da fc dc nf ds xs w hd hr hnf)
 have hwd := rds_words hr
 obtain ⟨R, hR⟩ : ∃ R, fptR ds (xs.map Sg.ct) hi lo = R := ⟨_, rfl⟩
 rw [hR]
 have HR := kide hR
 obtain ⟨nd, hnd⟩ : ∃ n, ds.length = n := ⟨_, rfl⟩
 rw [hnd] at HFO ⊢
 have hNIL : ∀ u, Below w.heap.size w u → RetFdN ([], false) w (.returned (.tuple #[.slice none 0 0, .bool false])) u := fun u hu => ⟨_, [], rfl, rfl, ⟨OS5.nil _ _, by simp⟩, Dj.nil, hu, by simp⟩
 have NIL := kide hNIL
 clear hNIL
 cases hF : flatR ds (xs.map Sg.ct) with
 | false =>
  rw [hF] at HFO
  obtain rfl : R = ([], false) := by rw [← hR]; unfold fptR; rw [if_neg]; simp [hF]
  clear hR hF
  go_enter Try.func7, Try.ntmps7
  go_wp2_with fail
  refine Calls.mono HFO.out ?_
  rintro e w2 ⟨rfl, hb2⟩
  have B2 := kide hb2
  clear hb2
  go_wp2_with fail
  exact bodyPost_ret (v := .tuple #[.slice none 0 0, .bool false]) (by simp [results, Try.results7, go_sem]) rfl (NIL.out _ B2.out)
 | true =>
  rw [hF] at HFO
  have hF2 := hF
  rw [flatR_form] at hF2
  simp only [Bool.and_eq_true] at hF2
  obtain ⟨hall, hs1, hs2, hl2⟩ := formR_sum hF2.1 hF2.2
  simp only [List.length_map] at hl2
  have HFW := kide (fun u (hu : Below w.heap.size w u) => formWidth_any fa fc nf xs u (hr.later hu) hnf (by omega) (fun x hx => (hall x.ct (List.mem_map_of_mem hx)).2))
  obtain ⟨N, hN⟩ : ∃ N : Nat, sumS (xs.map Sg.ct) = (N : Int) := ⟨(sumS (xs.map Sg.ct)).toNat, by omega⟩
  rw [hN] at HFW
  have hN2 : N ≤ 4096 := by omega
  have HRV : Hid (R = if 0 ≤ lo ∧ lo ≤ hi ∧ hi < (N : Int) then (formB (((formP (xs.map Sg.ct)).drop lo.toNat).take (hi.toNat + 1 - lo.toNat)), true) else ([], false)) := by
   show _ = _
   rw [← hR]
   unfold fptR
   rw [hN, hF]
   simp
  have hok : ∀ s ∈ xs.map Sg.ct, okS s ∧ 0 ≤ s.lo ∧ s.lo + s.wd ≤ 4096 := fun s hs => ⟨sgOk_okS hF2.1 (hall s hs).1 (hwd s hs), sgOk_lo hF2.1 (hall s hs).1⟩
  have HOK := kide hok
  have HNF := kide (formB_nf (Nf.of hF hwd))
  have HRD := kide hr
  have HNO := kide hno
  have HPL := kide hpl
  have HLE := kide hl2
  have HSM := kide hs2
  have HS1 := kide hs1
  have HNX := kide hnf
  have hnf2 : nf ≤ 2000 := by omega
  clear hR hF hF2 hall hs1 hs2 hl2 hN hr hd HR hwd hok hno hpl
  unfold in64 at hi1 lo1
  by_cases hc : 0 ≤ lo ∧ lo ≤ hi ∧ hi < (N : Int)
  ·rw [if_pos hc] at HRV
   obtain ⟨h1, h2, h3⟩ := hc
   obtain ⟨L, rfl⟩ : ∃ L : Nat, lo = (L : Int) := ⟨lo.toNat, by omega⟩
   obtain ⟨H, rfl⟩ : ∃ H : Nat, hi = (H : Int) := ⟨hi.toNat, by omega⟩
   simp only [Int.toNat_natCast] at HRV
   have q1 : ¬ (L : Int) < 0 := by omega
   have q2 : ¬ (L : Int) > (H : Int) := by omega
   have q3 : ¬ (H : Int) ≥ (N : Int) := by omega
   have hHw : IntKind.i64.wrap ((H : Int) + 1) = ((H + 1 : Nat) : Int) := by rw [IntKind.wrap_i64]; omega
   go_enter Try.func7, Try.ntmps7
   go_wp2_with fail
   refine Calls.mono HFO.out ?_
   rintro e w2 ⟨rfl, hb2⟩
   have B2 := kide hb2
   clear hb2
   go_wp2_with fail
   refine Calls.mono (HFW.out w2 B2.out) ?_
   rintro e w3 ⟨rfl, hb3⟩
   have B3 := kide (B2.out.trans (hb3.mono B2.out.size))
   clear hb3
   go_wp2_with fail
   refine Calls.mono (between_any _ _ _ _ _ _) ?_
   rintro e w4 ⟨rfl, hw4⟩
   obtain ⟨b, hb⟩ : ∃ b, w3.heap.size = b := ⟨_, rfl⟩
   have hba : Below w3.heap.size w3 w4 := by
    rw [hw4]
    exact (((Below.refl _ _).alloc (Nat.le_refl _) _).alloc (by simp) _).alloc (by simp; omega) _
   have x1 : Bz w4 b #[.slice fa nf fc] 25 := by
    rw [hw4, ← hb]
    exact ((Bz.new w3 #[.slice fa nf fc] 25).later ((Below.refl _ _).alloc (Nat.le_refl _) _)).later ((Below.refl _ _).alloc (Nat.le_refl _) _)
   have x2 : Bz w4 (b + 1) #[.int .i64 (L : Int)] 2 := by
    have h9 := (Bz.new (w3.alloc (Obj.cells #[.slice fa nf fc] 25)) #[.int .i64 (L : Int)] 2).later ((Below.refl _ _).alloc (Nat.le_refl _) (Obj.cells #[.int .i64 ((H + 1 : Nat) : Int)] 2))
    simp only [World.size_alloc, hb] at h9
    rw [hw4]
    exact h9
   have x3 : Bz w4 (b + 1 + 1) #[.int .i64 ((H + 1 : Nat) : Int)] 2 := by
    have h9 := Bz.new ((w3.alloc (Obj.cells #[.slice fa nf fc] 25)).alloc (Obj.cells #[.int .i64 (L : Int)] 2)) #[.int .i64 ((H + 1 : Nat) : Int)] 2
    simp only [World.size_alloc, hb] at h9
    rw [hw4]
    exact h9
   have B4 := kide (B3.out.trans (hba.mono B3.out.size))
   have hz4 : b + 3 ≤ w4.heap.size := by rw [hw4]; simp [hb]
   have hr4 := HRD.out.later B4.out
   obtain ⟨fb, fo, rfl⟩ : ∃ fb fo, fa = some ⟨fb, fo, none⟩ := by
    rcases hr4.2 with h0 | ⟨fb, fo, e, -⟩
    ·have h9 := HS1.out
     rw [h0] at h9
     simp [sumS] at h9
    ·exact ⟨fb, fo, e⟩
   have hcs : ∀ i x, xs[i]? = some x → SgAt w4 fb (fo + i * 5) x := fun i x hx => by
    rcases hr4.2 with h0 | ⟨b9, o9, e, hc⟩
    ·rw [h0] at hx; simp at hx
    ·cases e; exact hc i x hx
   have hfb : fb < w4.heap.size := by
    cases hxe : xs with
    | nil =>
     have h9 := HS1.out
     rw [hxe] at h9
     simp [sumS] at h9
    | cons x t =>
     have h9 := (hcs 0 x (by rw [hxe]; rfl)).1.1
     exact block_lt_of_cell h9
   have HSQ : Hid (∀ n, SeqS n 42 #[.pointer (some ⟨b, 0, none⟩), .pointer (some ⟨b + 1, 0, none⟩), .pointer (some ⟨b + 1 + 1, 0, none⟩)] (betS L (H + 1) 0 (xs.map Sg.ct)) w4.heap.size w4) := fun n =>
    between_seq n L (H + 1) w4.heap.size b (b + 1) (b + 1 + 1) fb fo fc nf xs w4 (Nat.le_refl _) HNX.out hnf2 (fun x hx => ⟨(HOK.out x.ct (List.mem_map_of_mem hx)).1, (HOK.out x.ct (List.mem_map_of_mem hx)).2, (by obtain ⟨i, hi9, e9⟩ := List.getElem_of_mem hx; exact (hcs i x (by rw [List.getElem?_eq_getElem hi9, e9])).2.1), HNO.out x hx, fun q hq => Nat.lt_of_lt_of_le (HPL.out x hx q hq) B4.out.size⟩) HSM.out (by omega) (by omega) x1 x2 x3 (by omega) (by omega) (by omega) hfb (fun i x hx => (hcs i x hx).1)
   have HEN : Hid (∀ (args : Array Value) (w : World), (callFunc 42 args).run Try.prog w = .ok (.enter 42 args) w) := enters_of Try.func42 (by kernel_rfl) rfl
   have HGA := kide (gather_any 42 _ _ w4 HEN.out HSQ.out (betS_ok HOK.out) (by have := betS_sum (lo := L) (en := H + 1) (f := 0) HOK.out; have := HSM.out; omega))
   have HBP : Hid (formB (formP (betS L (H + 1) 0 (xs.map Sg.ct))) = R.1 ∧ R.2 = true ∧ R.1.length ≤ 2000) := by
    have e1 := betS_P L (H + 1) (xs.map Sg.ct) 0 (fun s hs => (HOK.out s hs).1)
    rw [Nat.sub_zero, Nat.sub_zero, List.drop_take] at e1
    have h9 := formB_part (formP (xs.map Sg.ct)) L (H + 1 - L)
    rw [HNF.out, List.length_map] at h9
    rw [e1, HRV.out]
    exact ⟨rfl, rfl, Nat.le_trans h9 HLE.out⟩
   clear hw4 hba x1 x2 x3 hr4 hcs hfb
   rw [hb]
   go_wp2_with fail
   refine Calls.mono HGA.out ?_
   rintro e w5 ⟨hb5, (⟨v, l, rfl, hl5, hn5, ho5, hr5, hx5, hra5, -⟩ | ⟨rfl, h9⟩)⟩
   ·obtain ⟨va, vc, rfl⟩ := ho5.form
    have HFR := kide (fresh_any va l.length vc w4.heap.size true l w5 ho5 rfl hn5 hb5.size hr5 hx5 hra5)
    have B5 := kide (B4.out.trans (hb5.mono B4.out.size))
    have HL5 := kide hl5
    have HZ5 : Hid (w4.heap.size ≤ w5.heap.size) := hb5.size
    clear ho5 hr5 hx5 hra5 hb5 hl5
    go_wp2_with fail
    refine Calls.mono HFR.out ?_
    rintro e w6 ⟨rfl, m, hm⟩
    have hrow := hm.row
    rw [List.drop_of_length_le (Nat.le_refl _), List.append_nil] at hrow
    have b6 : Below w.heap.size w w6 := B5.out.trans ⟨hm.gr.os, hm.gr.tape, hm.gr.output, hm.gr.size, fun j hj => hm.gr.block j (Nat.lt_of_lt_of_le hj B5.out.size) (fun e => by
     have h8 := (hrow.lt e.symm).1
     have := B4.out.size
     omega)⟩
    have FIN : Hid (RetFdN R w (.returned (.tuple #[.slice va l.length vc, .bool true])) w6) := by
     refine ⟨_, m, by rw [HBP.out.2.1], ?_, ⟨hrow.low B4.out.size, fun x hx => (hm.nw x hx).mono (Nat.le_trans B4.out.size HZ5.out)⟩, hm.dj, b6, hm.no⟩
     rw [hm.ct, List.take_length, HL5.out, HBP.out.1]
    clear hm hrow b6
    go_wp2_with fail
    exact bodyPost_ret (v := .tuple #[.slice va l.length vc, .bool true]) (by simp [results, Try.results7, go_sem]) rfl FIN.out
   ·have h8 := HBP.out.2.2
    rw [← HBP.out.1] at h8
    omega
  ·rw [if_neg hc] at HRV
   obtain rfl := HRV.out
   go_enter Try.func7, Try.ntmps7
   go_wp2_with fail
   refine Calls.mono HFO.out ?_
   rintro e w2 ⟨rfl, hb2⟩
   have B2 := kide hb2
   clear hb2
   by_cases q1 : lo < 0
   ·go_wp2_with fail
    exact bodyPost_ret (v := .tuple #[.slice none 0 0, .bool false]) (by simp [results, Try.results7, go_sem]) rfl (NIL.out _ B2.out)
   by_cases q2 : lo > hi
   ·go_wp2_with fail
    exact bodyPost_ret (v := .tuple #[.slice none 0 0, .bool false]) (by simp [results, Try.results7, go_sem]) rfl (NIL.out _ B2.out)
   have q3 : hi ≥ (N : Int) := by omega
   go_wp2_with fail
   refine Calls.mono (HFW.out w2 B2.out) ?_
   rintro e w3 ⟨rfl, hb3⟩
   have B3 := kide (B2.out.trans (hb3.mono B2.out.size))
   clear hb3
   go_wp2_with fail
   exact bodyPost_ret (v := .tuple #[.slice none 0 0, .bool false]) (by simp [results, Try.results7, go_sem]) rfl (NIL.out _ B3.out)
open Go.RowKit Go.Shelf
attribute [local go_sem] Oper.semAt_some
theorem round_deep {m m' l l' : Nat} {P : Program} {f : FuncId} {tmps : Array Value} {assign body : Code} {w : World} {R : Ending → World → Prop} (h : RoundIn Fence.wide m P l f tmps assign body w R) : RoundIn (Fence.wide.inRound l') m' P l f tmps assign body w R :=
 ⟨trivial, fun c cs _ => h.2 c cs (fun d hd => by cases hd)⟩
def marks (Ds : List Nat) : List Deferred := Ds.map fun D => { target := .collected D, args := #[] }
theorem leaves_all {F : Fence} {n : Nat} {P : Program} {fn : Func} {tmps : Array Value} {R : Ending → World → Prop} (Q : World → Prop) (B : Nat) (hQ : ∀ w D, B ≤ D → w.heap[D]? = some (.deferred (some [])) → Q w → Q (w.putObj D (.deferred none)))
  (hfin : ∀ w, Q w → LeavesIn F n P fn tmps R [] .returning w) : ∀ (Ds : List Nat) (w : World), Ds.Nodup → (∀ D ∈ Ds, B ≤ D ∧ w.heap[D]? = some (.deferred (some []))) → Q w → LeavesInM F n P fn tmps R (marks Ds) .returning w
 | [], w, _, _, hq => hfin w hq
 | D :: Ds, w, hn, hd, hq => by
  obtain ⟨h1, h2⟩ := hd D (by simp)
  refine ⟨by simp, .inl ⟨D, _, rfl, run_takeDeferred h2, leaves_all Q B hQ hfin Ds _ (List.nodup_cons.1 hn).2 (fun E hE => ?_) (hQ w D h1 h2 hq)⟩⟩
  obtain ⟨h3, h4⟩ := hd E (by simp [hE])
  exact ⟨h3, by rw [World.putObj_heap_other (fun e => (List.nodup_cons.1 hn).1 (by rw [← e]; exact hE))]; exact h4⟩

structure Pt where
 g : Nat
 lb : Array Value
 L : List Sc
set_option maxHeartbeats 400000 in
theorem inTurn_any (va : Option Addr) (N vc : Nat) (w : World) :
  Calls Try.prog 25 #[.slice va N vc] w fun e w' => e = .returned (.func (.func 45) #[] #[.pointer (some ⟨w.heap.size, 0, none⟩)]) ∧ w' = w.alloc (Obj.cells #[.slice va N vc] 83) := by
 go_enter Try.func25, Try.ntmps25
 go_wp2_with fail
 go_ret
 exact ⟨rfl, rfl⟩
theorem pt_pre {ps : List Pt} {k : Nat} {p : Pt} {A : List Sc} (hp : ps[k]? = some p) (hA : A <+: p.L) : (ps.take k).flatMap Pt.L ++ A <+: ps.flatMap Pt.L := by
 obtain ⟨r, hr⟩ := hA
 have h9 := List.getElem?_eq_some_iff.1 hp
 have e : ps = ps.take k ++ p :: ps.drop (k + 1) := by rw [← h9.2, ← List.drop_eq_getElem_cons h9.1, List.take_append_drop]
 refine ⟨r ++ (ps.drop (k + 1)).flatMap Pt.L, ?_⟩
 conv => rhs; rw [e, List.flatMap_append, List.flatMap_cons, ← hr]
 simp only [List.append_assoc]
theorem pt_next {ps : List Pt} {k : Nat} {p : Pt} (hp : ps[k]? = some p) : (ps.take (k + 1)).flatMap Pt.L = (ps.take k).flatMap Pt.L ++ p.L := by
 rw [List.take_add_one, hp, Option.toList_some, List.flatMap_append]
 simp

structure Tn (l : Nat) (J : List Sg × (Nat → Prop) → World → Prop) (B : Nat) (W : World) (Ls : List Sc) (pre : List Sg) (O : Nat → Prop) (Ds : List Nat) (wr : World) : Prop where
 j : J (pre, O) wr
 ct : pre.map Sg.ct = Ls
 bel : Below B W wr
 y : Bz wr W.heap.size #[.func (.yield l) #[] #[]] 80
 no : ¬ O W.heap.size
 nd : Ds.Nodup
 ds : ∀ D ∈ Ds, W.heap.size ≤ D ∧ wr.heap[D]? = some (.deferred (some []))
set_option maxHeartbeats 4000000 in
set_option maxRecDepth 100000 in
theorem inTurn_seq (n : Nat) (B : Nat) (bf fb fo fc N : Nat) (ps : List Pt) (w : World) (hB : B ≤ w.heap.size) (hN : ps.length = N) (hN2 : N ≤ 1048576)
  (hps : ∀ p ∈ ps, (∀ (args : Array Value) (w : World), (callFunc p.g args).run Try.prog w = .ok (.enter p.g args) w) ∧ ∀ n, SeqS n p.g p.lb p.L B w)
  (h1 : Bz w bf #[.slice (some ⟨fb, fo, none⟩) N fc] 83) (l1 : bf < B) (l4 : fb < B)
  (hc : ∀ i p, ps[i]? = some p → w.cell? ⟨fb, fo + i, none⟩ = some (.func (.func p.g) #[] p.lb)) :
  SeqS n 45 #[.pointer (some ⟨bf, 0, none⟩)] (ps.flatMap Pt.L) B w := by
 intro l J Jx O0 W hbW hJ hJx hlt hOw h0
 refine callsIn_of_wp_marks Try.func45 rfl trivial ?_ rfl
 simp only [Try.ntmps45, List.size_toArray, List.length_cons, List.length_nil, Nat.reduceAdd, Nat.reduceSub, Array.replicate_succ, Array.replicate_zero, List.push_toArray, List.append_toArray, List.nil_append, List.cons_append]
 have c1 := (hbW.cell (p := ⟨bf, 0, none⟩) l1).trans (h1.cell 0)
 simp at c1
 have l2 : bf < W.heap.size := by have := hbW.size; omega
 have T0 : Hid (Tn l J B W [] [] O0 [] (W.alloc (Obj.cells #[.func (.yield l) #[] #[]] 80))) := by
  refine ⟨hJ.alloc _ h0, rfl, (Below.refl _ _).alloc (by have := hbW.size; omega) _, Bz.new W _ _, fun h9 => ?_, List.nodup_nil, fun D hD => by cases hD⟩
  have := hlt _ _ h0 _ h9
  omega
 have HPS := kide hps
 have HC := kide hc
 have HN := kide hN
 have HJ := kide hJ
 have HJX := kide hJx
 have HLT := kide hlt
 have HOW := kide hOw
 have HBW := kide hbW
 have hBW : B ≤ W.heap.size := by have := hbW.size; omega
 clear hps hc h1 hN hJ hJx hlt hOw hbW
 gi_wp2
 refine wpIn_loop (fun a wr => ∃ (k : Nat) (Ds : List Nat) (pre : List Sg) (O : Nat → Prop) (u3 u4 u5 u9 u10 u11 u12 u13 u14 u15 u16 u17 u18 : Value), k ≤ N ∧ a = { tmps := #[.func (Fn.yield l) #[] #[], .pointer (some ⟨bf, 0, none⟩), .pointer (some ⟨W.heap.size, 0, none⟩), u3, u4, u5, .slice (some ⟨fb, fo, none⟩) N fc, .int .i64 (N : Int), .int .i64 (k : Int), u9, u10, u11, u12, u13, u14, u15, u16, u17, u18], defers := marks Ds } ∧ Tn l J B W ((ps.take k).flatMap Pt.L) pre O Ds wr)
  (fun a _ => N - (intOf (a.tmps.getD 8 undef)).toNat) ⟨0, [], [], O0, _, _, _, _, _, _, _, _, _, _, _, _, _, Nat.zero_le _, rfl, T0.out⟩ ?_
 rintro a wr ⟨k, Ds, pre, O, u3, u4, u5, u9, u10, u11, u12, u13, u14, u15, u16, u17, u18, hk, rfl, hT⟩
 by_cases hkN : k < N
 ·obtain ⟨p, hp⟩ : ∃ p, ps[k]? = some p := ⟨ps[k]'(by rw [HN.out]; exact hkN), List.getElem?_eq_getElem _⟩
  obtain ⟨hen, hsq⟩ := HPS.out p (List.mem_of_getElem? hp)
  have hB9 := HBW.out.trans hT.bel
  have p0 := (hB9.cell (p := ⟨fb, fo + k, none⟩) l4).trans (HC.out k p hp)
  have hk1 : (k : Int) < (N : Int) := by omega
  have hk0 : (k : Int) ≥ 0 := by omega
  have hkw : IntKind.i64.wrap ((k : Int) + 1) = (k : Int) + 1 := by rw [IntKind.wrap_i64]; omega
  have HT := kide hT
  have HEN := kide hen
  have HSQ := kide hsq
  have HB9 := kide hB9
  have HPK := kide hp
  clear hT hen hsq hB9 hp
  have hWr : W.heap.size ≤ wr.heap.size := HT.out.bel.size
  gi_wp2
  refine wpIn_rangeW (F := Fence.wide) rfl (fun h => by cases h) (gf := p.g) (lb := p.lb) rfl trivial HEN.out (HSQ.out (n - 1)) ?kr (fun h k => h.trans k) ?kb ?rp HB9.out (fun _ => rfl)
   (fun s u => J (pre ++ s.1, s.2) u ∧ Below B W u ∧ Bz u W.heap.size #[.func (.yield l) #[] #[]] 80 ∧ ¬ s.2 W.heap.size ∧ ∀ D ∈ Ds, u.heap[D]? = some (.deferred (some [])))
   (fun q u => Jx (pre ++ q) u ∧ ∀ D ∈ Ds, u.heap[D]? = some (.deferred (some []))) O ?hi ?hix ?ho ⟨by simpa using HT.out.j, HT.out.bel, HT.out.y, HT.out.no, fun D hD => (HT.out.ds D hD).2⟩
   (fun T x a' u => ∃ Bx, Bz u Bx #[.int .i64 x.ct.v, .int .i64 x.ct.lo, .int .i64 x.ct.wd, .int .i64 x.ct.bw, .slice x.a x.ct.ws.length x.c] 34 ∧ a' = { tmps := #[.func (Fn.yield l) #[] #[], .pointer (some ⟨bf, 0, none⟩), .pointer (some ⟨W.heap.size, 0, none⟩), u3, .func (Fn.func p.g) #[] p.lb, .pointer (some ⟨Bx, 0, none⟩), .slice (some ⟨fb, fo, none⟩) N fc, .int .i64 (N : Int), .int .i64 (k : Int), .bool true, .pointer (some ⟨fb, fo + k, none⟩), .func (Fn.func p.g) #[] p.lb, .func (Fn.func p.g) #[] p.lb, sgV x, u14, u15, u16, u17, u18], defers := [] }) ?hax ?assign ?body ?done ?stop
  case kr =>
   intro o o'
   exact ((Below.refl B wr).alloc (by omega) _).alloc (by simp; omega) _
  case kb =>
   intro u lq o o' hl _ _
   exact ⟨rfl, rfl, rfl, by simp, fun k hk => World.putObj_heap_other (fun e => by omega)⟩
  case rp =>
   rintro T q x u lq o o' hl hc ⟨h1, h2, h3, h4⟩
   exact ⟨h1, cz_rd h2 (Cz.put o' hl hc), h3, fun p hp => ⟨(h4 p hp).1, by have := (h4 p hp).2; simpa using this⟩⟩
  case hi =>
   rintro s A A' row ⟨q1, q2, q3, q4, q5⟩ hg hr
   refine ⟨HJ.out _ A A' row q1 hg (fun r e => ⟨Nat.le_trans hWr (hr r e).1, (hr r e).2⟩), q2.trans ⟨hg.os, hg.tape, hg.output, hg.size, fun j hj => hg.block j ?_ ?_⟩, cz_bz q3 (cz_grown hg (fun r e => (hr r e).2)), q4, fun D hD => ?_⟩
   ·have := q2.size; omega
   ·intro e; have := (hr j e.symm).1; omega
   ·rw [hg.block D (lt_of_block (q5 D hD)) (fun e => by have h9 := (hr D e.symm).1; have h8 := lt_of_block (HT.out.ds D hD).2; omega)]
    exact q5 D hD
  case hix =>
   rintro s A A' row ⟨q1, q5⟩ hg hr
   refine ⟨HJX.out _ A A' row q1 hg (fun r e => ⟨Nat.le_trans hWr (hr r e).1, (hr r e).2⟩), fun D hD => ?_⟩
   rw [hg.block D (lt_of_block (q5 D hD)) (fun e => by have h9 := (hr D e.symm).1; have h8 := lt_of_block (HT.out.ds D hD).2; omega)]
   exact q5 D hD
  case ho =>
   rintro s u ⟨q1, -⟩ j hj
   exact HLT.out _ _ q1 j hj
  case hax =>
   rintro T x a' _ A A' row ⟨Bx, h2, h3⟩ hg hr
   exact ⟨Bx, cz_bz h2 (cz_grown hg (fun r e => (hr r e).2)), h3⟩
  case assign =>
   rintro lq T q O1 x u K hTW hi9 ⟨r1, r2, r3, r4⟩ hK
   have hba : Below u.heap.size u (u.alloc (Obj.cells #[.int .i64 x.ct.v, .int .i64 x.ct.lo, .int .i64 x.ct.wd, .int .i64 x.ct.bw, .slice x.a x.ct.ws.length x.c] 34)) := (Below.refl _ _).alloc (Nat.le_refl _) _
   have hub : W.heap.size ≤ u.heap.size := hi9.2.1.size
   have hi8 : J (pre ++ q, O1) (u.alloc (Obj.cells #[.int .i64 x.ct.v, .int .i64 x.ct.lo, .int .i64 x.ct.wd, .int .i64 x.ct.bw, .slice x.a x.ct.ws.length x.c] 34)) ∧ Below B W (u.alloc (Obj.cells #[.int .i64 x.ct.v, .int .i64 x.ct.lo, .int .i64 x.ct.wd, .int .i64 x.ct.bw, .slice x.a x.ct.ws.length x.c] 34)) ∧ Bz (u.alloc (Obj.cells #[.int .i64 x.ct.v, .int .i64 x.ct.lo, .int .i64 x.ct.wd, .int .i64 x.ct.bw, .slice x.a x.ct.ws.length x.c] 34)) W.heap.size #[.func (.yield l) #[] #[]] 80 ∧ ¬ O1 W.heap.size ∧ ∀ D ∈ Ds, (u.alloc (Obj.cells #[.int .i64 x.ct.v, .int .i64 x.ct.lo, .int .i64 x.ct.wd, .int .i64 x.ct.bw, .slice x.a x.ct.ws.length x.c] 34)).heap[D]? = some (.deferred (some [])) := by
    obtain ⟨q1, q2, q3, q4, q5⟩ := hi9
    exact ⟨HJ.out.alloc _ q1, q2.trans (hba.mono (by omega)), q3.later hba, q4, fun D hD => (hba.block D (lt_of_block (q5 D hD))).trans (q5 D hD)⟩
   have HI8 := kide hi8
   clear hi9 hi8
   unfold sgV
   gi_wp2
   exact hK _ _ ((KeepsOthers.alloc _ _).from _) (hba.mono (by omega)) (Cz.below hba) HI8.out ⟨r1, r2.later hba, r3, fun p hp => ⟨(r4 p hp).1, Nat.lt_of_lt_of_le (r4 p hp).2 hba.size⟩⟩ ⟨u.heap.size, Bz.new u _ _, rfl⟩
  case body =>
   rintro lq q O1 x a' W0 W1 hlq ⟨j0, -, -, -, -⟩ hcz ⟨j1, b1, y1, no1, d1⟩ ⟨r1, r2, r3, r4⟩ ⟨Bx, hX, rfl⟩
   simp only [] at j0 j1 no1
   have hPP : (pre ++ q ++ [x]).map Sg.ct <+: ps.flatMap Pt.L := by
    rw [List.append_assoc, List.map_append, HT.out.ct]
    exact pt_pre HPK.out r1
   obtain ⟨fn, tmps, assign, bodyc, hy, hR⟩ := HOW.out (pre ++ q) O1 x W0 W1 j0 hcz j1 ⟨hPP, r2, r3, r4⟩
   have g0 := y1.cell 0
   have x0 := hX.cell 0
   have x1 := hX.cell 1
   have x2 := hX.cell 2
   have x3 := hX.cell 3
   have x4 := hX.cell 4
   simp at g0 x0 x1 x2 x3 x4
   have hyl := y1.lt
   have B1 := kide b1
   have Y1 := kide y1
   have NO1 := kide no1
   have D1 := kide d1
   clear j0 j1 b1 y1 no1 d1 r1 r2 r3 r4 hX hcz hPP
   unfold sgV at hy ⊢
   gi_wp2
   refine ⟨(fun h => by cases h), (round_deep hR).mono ?_⟩
   rintro e W3 (⟨rfl, hK3, hO3, hF3, O', hJ3, hI3⟩ | ⟨rfl, hF3, hJx3⟩)
   ·gi_wp2
    refine ⟨keeps_low hF3 hWr, hK3, hO3, O', ⟨by rw [← List.append_assoc]; exact hJ3, B1.out.trans hK3, hO3.2 _ _ Y1.out rfl NO1.out, fun h9 => ?_, fun D hD => hF3.same D _ (HT.out.ds D hD).1 (D1.out D hD) rfl⟩, hI3⟩
    rcases hI3 _ h9 with h9 | h9
    ·exact NO1.out h9
    ·omega
   ·gi_wp2
    exact ⟨keeps_low hF3 hWr, by rw [← List.append_assoc]; exact hJx3, fun D hD => hF3.same D _ (HT.out.ds D hD).1 (D1.out D hD) rfl⟩
  case done =>
   rintro D xs O1 u hD hS ⟨j1, b1, y1, no1, d1⟩ hdf
   have NX : Hid (Tn l J B W ((ps.take (k + 1)).flatMap Pt.L) (pre ++ xs) O1 (D :: Ds) u) := by
    refine ⟨j1, by rw [List.map_append, HT.out.ct, hS, pt_next HPK.out], b1, y1, no1, List.nodup_cons.2 ⟨fun h9 => ?_, HT.out.nd⟩, fun E hE => ?_⟩
    ·have := lt_of_block (HT.out.ds D h9).2
     omega
    ·rcases List.mem_cons.1 hE with rfl | hE
     ·exact ⟨by omega, hdf⟩
     ·exact ⟨(HT.out.ds E hE).1, d1 E hE⟩
   clear j1 b1 y1 no1 d1 hdf hS
   gi_wp2
   refine ⟨⟨k + 1, D :: Ds, pre ++ xs, O1, _, _, _, _, _, _, _, _, _, _, _, _, _, by omega, rfl, NX.out⟩, ?_⟩
   simp [intOf]
   omega
  case stop =>
   rintro D q u hD hSp ⟨jx, d1⟩ hdf
   have hPP : (pre ++ q).map Sg.ct <+: ps.flatMap Pt.L := by
    rw [List.map_append, HT.out.ct]
    exact pt_pre HPK.out hSp
   gi_wp2
   refine leaves_all (fun u => Jx (pre ++ q) u) W.heap.size (fun u D hD hd hq => HJX.out.putObj _ hq hD hd rfl) (fun u hq => ⟨_, results_none rfl _ _ _, ⟨_, rfl⟩, .inr ⟨_, hPP, hq⟩⟩) (D :: Ds) u (List.nodup_cons.2 ⟨fun h9 => ?_, HT.out.nd⟩) (fun E hE => ?_) jx
   ·have := lt_of_block (HT.out.ds D h9).2
    omega
   ·rcases List.mem_cons.1 hE with rfl | hE
    ·exact ⟨by omega, hdf⟩
    ·exact ⟨(HT.out.ds E hE).1, d1 E hE⟩
 ·obtain rfl : k = N := by omega
  have hall : pre.map Sg.ct = ps.flatMap Pt.L := by rw [hT.ct, List.take_of_length_le (by rw [HN.out]; exact Nat.le_refl _)]
  have HT := kide hT
  clear hT
  gi_wp2
  exact leaves_all (fun u => J (pre, O) u) W.heap.size (fun u D hD hd hq => HJ.out.putObj _ hq hD hd rfl) (fun u hq => ⟨_, results_none rfl _ _ _, ⟨_, rfl⟩, .inl ⟨_, _, hall, hq⟩⟩) Ds wr HT.out.nd HT.out.ds HT.out.j
open Go.RowKit Go.Shelf
theorem rds_at {w : World} {a : Option Addr} {xs : List Sg} (hr : RdS w a xs) (h1 : 1 ≤ sumS (xs.map Sg.ct)) (hok : ∀ s ∈ xs.map Sg.ct, okS s ∧ 0 ≤ s.lo ∧ s.lo + s.wd ≤ 4096) (hno : ∀ x ∈ xs, x.a = none → x.c = 0) (hpl : ∀ x ∈ xs, ∀ q, x.a = some q → q.block < w.heap.size) :
  ∃ fb fo, a = some ⟨fb, fo, none⟩ ∧ fb < w.heap.size ∧ (∀ i x, xs[i]? = some x → ShAt w fb (fo + i * 5) x.hd) ∧ ∀ x ∈ xs, AtS w.heap.size w x := by
 rcases hr.2 with h0 | ⟨fb, fo, rfl, hc⟩
 ·rw [h0] at h1
  simp [sumS] at h1
 ·refine ⟨fb, fo, rfl, ?_, fun i x hx => (hc i x hx).1, fun x hx => ?_⟩
  ·cases hxe : xs with
   | nil =>
    rw [hxe] at h1
    simp [sumS] at h1
   | cons x t => exact block_lt_of_cell (hc 0 x (by rw [hxe]; rfl)).1.1
  ·obtain ⟨i, hi, e⟩ := List.getElem_of_mem hx
   have h9 := hok x.ct (List.mem_map_of_mem hx)
   exact ⟨h9.1, h9.2, (hc i x (by rw [List.getElem?_eq_getElem hi, e])).2.1, hno x hx, hpl x hx⟩
theorem turn2_seq {w : World} {b : Nat} {la ha : Option Addr} {nl lc nh hc : Nat} {ls hs : List Sg} (b3 : b + 3 < w.heap.size)
  (x0 : Bz w b #[.slice la nl lc] 25) (x1 : Bz w (b + 1) #[.slice ha nh hc] 25)
  (x2 : Bz w (b + 1 + 1) #[.func (.func 46) #[] #[.pointer (some ⟨b, 0, none⟩)], .func (.func 46) #[] #[.pointer (some ⟨b + 1, 0, none⟩)]] 51)
  (x3 : Bz w (b + 1 + 1 + 1) #[.slice (some ⟨b + 1 + 1, 0, none⟩) 2 2] 83)
  (hnl : ls.length = nl) (hnl2 : nl ≤ 2000) (hnh : hs.length = nh) (hnh2 : nh ≤ 2000) (lr : RdS w la ls) (hr : RdS w ha hs) (l1 : 1 ≤ sumS (ls.map Sg.ct)) (h1 : 1 ≤ sumS (hs.map Sg.ct))
  (lok : ∀ s ∈ ls.map Sg.ct, okS s ∧ 0 ≤ s.lo ∧ s.lo + s.wd ≤ 4096) (hok : ∀ s ∈ hs.map Sg.ct, okS s ∧ 0 ≤ s.lo ∧ s.lo + s.wd ≤ 4096) (lno : ∀ x ∈ ls, x.a = none → x.c = 0) (hno : ∀ x ∈ hs, x.a = none → x.c = 0) (lpl : ∀ x ∈ ls, ∀ q, x.a = some q → q.block < w.heap.size) (hpl : ∀ x ∈ hs, ∀ q, x.a = some q → q.block < w.heap.size) (n : Nat) :
  SeqS n 45 #[.pointer (some ⟨b + 1 + 1 + 1, 0, none⟩)] (ls.map Sg.ct ++ hs.map Sg.ct) w.heap.size w := by
 obtain ⟨lb, lo, rfl, ll, lcell, lat⟩ := rds_at lr l1 lok lno lpl
 obtain ⟨hb, ho, rfl, hl, hcell, hat⟩ := rds_at hr h1 hok hno hpl
 have h9 := inTurn_seq n w.heap.size (b + 1 + 1 + 1) (b + 1 + 1) 0 2 2 [⟨46, #[.pointer (some ⟨b, 0, none⟩)], ls.map Sg.ct⟩, ⟨46, #[.pointer (some ⟨b + 1, 0, none⟩)], hs.map Sg.ct⟩] w (Nat.le_refl _) rfl (by omega) (fun p hp => by
   simp only [List.mem_cons, List.not_mem_nil, or_false] at hp
   rcases hp with rfl | rfl
   ·exact ⟨enters_of Try.func46 (by kernel_rfl) rfl, fun n => values_seq n w.heap.size b lb lo lc nl ls w (Nat.le_refl _) hnl hnl2 lat x0 (by omega) ll lcell⟩
   ·exact ⟨enters_of Try.func46 (by kernel_rfl) rfl, fun n => values_seq n w.heap.size (b + 1) hb ho hc nh hs w (Nat.le_refl _) hnh hnh2 hat x1 (by omega) hl hcell⟩) x3 (by omega) (by omega) (fun i p hp => by
   match i, hp with
   | 0, hp => simp at hp; subst hp; exact x2.cell 0
   | 1, hp => simp at hp; subst hp; exact x2.cell 1
   | i + 2, hp => simp at hp)
 simpa using h9
set_option maxHeartbeats 2000000 in
set_option maxRecDepth 100000 in
theorem implJoin_any (da ha la : Option Addr) (dc hc nh lc nl : Nat) (ds : List Dc) (hs ls : List Sg) (w : World) (hd : RdD w da ds) (hr : RdS w ha hs) (hnh : hs.length = nh) (lr : RdS w la ls) (hnl : ls.length = nl)
  (hno : ∀ x ∈ hs, x.a = none → x.c = 0) (hpl : ∀ x ∈ hs, ∀ q, x.a = some q → q.block < w.heap.size) (lno : ∀ x ∈ ls, x.a = none → x.c = 0) (lpl : ∀ x ∈ ls, ∀ q, x.a = some q → q.block < w.heap.size) :
  Calls Try.prog 9 #[.slice da ds.length dc, .slice ha nh hc, .slice la nl lc] w (RetFd (fjnR ds (hs.map Sg.ct) (ls.map Sg.ct)) w) := by
 have HFH := kide (implFlat_any ha da hc dc nh ds hs w hd hr hnh)
 have hwh := rds_words hr
 have hwl := rds_words lr
 obtain ⟨R, hR⟩ : ∃ R, fjnR ds (hs.map Sg.ct) (ls.map Sg.ct) = R := ⟨_, rfl⟩
 rw [hR]
 have HR := kide hR
 have NIL : Hid (∀ u, Below w.heap.size w u → RetFd ([], false) w (.returned (.tuple #[.slice none 0 0, .bool false])) u) := fun u hu => ⟨_, [], rfl, rfl, ⟨OS5.nil _ _, by simp⟩, Dj.nil, hu⟩
 cases hF : flatR ds (hs.map Sg.ct) with
 | false =>
  rw [hF] at HFH
  obtain rfl : R = ([], false) := by rw [← hR]; unfold fjnR; rw [if_neg]; simp [hF]
  obtain ⟨nd, hnd⟩ : ∃ n, ds.length = n := ⟨_, rfl⟩
  rw [hnd] at HFH ⊢
  clear hR hF
  go_enter Try.func9, Try.ntmps9
  go_wp2_with fail
  refine Calls.mono HFH.out ?_
  rintro e w2 ⟨rfl, hb2⟩
  have B2 := kide hb2
  clear hb2
  go_wp2_with fail
  exact bodyPost_ret (v := .tuple #[.slice none 0 0, .bool false]) (by simp [results, Try.results9, go_sem]) rfl (NIL.out _ B2.out)
 | true =>
  rw [hF] at HFH
  have hF2 := hF
  rw [flatR_form] at hF2
  simp only [Bool.and_eq_true] at hF2
  have HFL := kide (fun u (hu : Below w.heap.size w u) => formOk_any la da lc dc nl ds ls u (hd.later hu) (lr.later hu) hnl hF2.1)
  obtain ⟨nd, hnd⟩ : ∃ n, ds.length = n := ⟨_, rfl⟩
  rw [hnd] at HFH HFL ⊢
  cases hG : formR ds (ls.map Sg.ct) with
  | false =>
   rw [hG] at HFL
   obtain rfl : R = ([], false) := by rw [← hR]; unfold fjnR; rw [if_neg]; intro h9; have := h9.2.1; rw [flatR_form, hG] at this; simp at this
   clear hR hF hG hF2
   go_enter Try.func9, Try.ntmps9
   go_wp2_with fail
   refine Calls.mono HFH.out ?_
   rintro e w2 ⟨rfl, hb2⟩
   have B2 := kide hb2
   clear hb2
   go_wp2_with fail
   refine Calls.mono (HFL.out w2 B2.out) ?_
   rintro e w3 ⟨rfl, hb3⟩
   have B3 := kide (B2.out.trans (hb3.mono B2.out.size))
   clear hb3
   go_wp2_with fail
   exact bodyPost_ret (v := .tuple #[.slice none 0 0, .bool false]) (by simp [results, Try.results9, go_sem]) rfl (NIL.out _ B3.out)
  | true =>
   rw [hG] at HFL
   have hGF : flatR ds (ls.map Sg.ct) = true := by rw [flatR_form, hF2.1, hG]; rfl
   obtain ⟨hall, hs1, hs2, hl2⟩ := formR_sum hF2.1 hF2.2
   obtain ⟨gall, gs1, gs2, gl2⟩ := formR_sum hF2.1 hG
   simp only [List.length_map] at hl2 gl2
   have HWH := kide (fun u (hu : Below w.heap.size w u) => formWidth_any ha hc nh hs u (hr.later hu) hnh (by omega) (fun x hx => (hall x.ct (List.mem_map_of_mem hx)).2))
   have HWL := kide (fun u (hu : Below w.heap.size w u) => formWidth_any la lc nl ls u (lr.later hu) hnl (by omega) (fun x hx => (gall x.ct (List.mem_map_of_mem hx)).2))
   obtain ⟨SH, hSH⟩ : ∃ N : Nat, sumS (hs.map Sg.ct) = (N : Int) := ⟨(sumS (hs.map Sg.ct)).toNat, by omega⟩
   obtain ⟨SL, hSL⟩ : ∃ N : Nat, sumS (ls.map Sg.ct) = (N : Int) := ⟨(sumS (ls.map Sg.ct)).toNat, by omega⟩
   rw [hSH] at HWH
   rw [hSL] at HWL
   have hSH2 : SH ≤ 4096 := by omega
   have hSL2 : SL ≤ 4096 := by omega
   have HRV : Hid (R = if SH + SL ≤ 4096 ∧ (formB (formP (ls.map Sg.ct) ++ formP (hs.map Sg.ct))).length ≤ 2000 then (formB (formP (ls.map Sg.ct) ++ formP (hs.map Sg.ct)), true) else ([], false)) := by
    show _ = _
    rw [← hR]
    unfold fjnR
    rw [hF, hGF, hSH, hSL]
    have e : ((SH : Int) + (SL : Int) ≤ 4096) ↔ (SH + SL ≤ 4096) := by omega
    simp only [true_and, e]
   have hokh : ∀ s ∈ hs.map Sg.ct, okS s ∧ 0 ≤ s.lo ∧ s.lo + s.wd ≤ 4096 := fun s hs => ⟨sgOk_okS hF2.1 (hall s hs).1 (hwh s hs), sgOk_lo hF2.1 (hall s hs).1⟩
   have hokl : ∀ s ∈ ls.map Sg.ct, okS s ∧ 0 ≤ s.lo ∧ s.lo + s.wd ≤ 4096 := fun s hs => ⟨sgOk_okS hF2.1 (gall s hs).1 (hwl s hs), sgOk_lo hF2.1 (gall s hs).1⟩
   have HOH := kide hokh
   have HOL := kide hokl
   have HRH := kide hr
   have HRL := kide lr
   have HNOH := kide hno
   have HNOL := kide lno
   have HPLH := kide hpl
   have HPLL := kide lpl
   have HNH := kide hnh
   have HNL := kide hnl
   have HS1 := kide hs1
   have GS1 := kide gs1
   have HSH := kide hSH
   have HSL := kide hSL
   have hnh2 : nh ≤ 2000 := by omega
   have hnl2 : nl ≤ 2000 := by omega
   have hsw : IntKind.i64.wrap ((SH : Int) + (SL : Int)) = (SH : Int) + (SL : Int) := by rw [IntKind.wrap_i64]; omega
   clear hR hF hG hF2 hGF hall gall hs1 hs2 hl2 gs1 gs2 gl2 hSH hSL hr hd lr HR hwh hwl hokh hokl hno lno hpl lpl
   go_enter Try.func9, Try.ntmps9
   go_wp2_with fail
   refine Calls.mono HFH.out ?_
   rintro e w2 ⟨rfl, hb2⟩
   have B2 := kide hb2
   clear hb2
   go_wp2_with fail
   refine Calls.mono (HFL.out w2 B2.out) ?_
   rintro e w3 ⟨rfl, hb3⟩
   have B3 := kide (B2.out.trans (hb3.mono B2.out.size))
   clear hb3
   go_wp2_with fail
   refine Calls.mono (HWH.out w3 B3.out) ?_
   rintro e w4 ⟨rfl, hb4⟩
   have B4 := kide (B3.out.trans (hb4.mono B3.out.size))
   clear hb4
   go_wp2_with fail
   refine Calls.mono (HWL.out w4 B4.out) ?_
   rintro e w5 ⟨rfl, hb5⟩
   have B5 := kide (B4.out.trans (hb5.mono B4.out.size))
   clear hb5
   by_cases hle : SH + SL ≤ 4096
   ·have q1 : ¬ (SH : Int) + (SL : Int) > 4096 := by omega
    go_wp2_with fail
    refine Calls.mono (values_any _ _ _ _) ?_
    rintro e w6 ⟨rfl, hw6⟩
    go_wp2_with fail
    refine Calls.mono (values_any _ _ _ _) ?_
    rintro e w7 ⟨rfl, hw7⟩
    go_wp2_with fail
    refine Calls.mono (inTurn_any _ _ _ _) ?_
    rintro e w9 ⟨rfl, hw9⟩
    obtain ⟨b, hb⟩ : ∃ b, w5.heap.size = b := ⟨_, rfl⟩
    have hba : Below w5.heap.size w5 w9 := by
     rw [hw9]
     exact ((((Below.refl _ _).alloc (Nat.le_refl _) _).alloc (by simp) _).alloc (by simp; omega) _).alloc (by simp; omega) _
    have hz9 : b + 3 < w9.heap.size := by rw [hw9]; simp [hb]
    have x0 : Bz w9 b #[.slice la nl lc] 25 := by
     rw [hw9, ← hb]
     exact (((Bz.new w5 #[.slice la nl lc] 25).later ((Below.refl _ _).alloc (Nat.le_refl _) _)).later ((Below.refl _ _).alloc (Nat.le_refl _) _)).later ((Below.refl _ _).alloc (Nat.le_refl _) _)
    have x1 : Bz w9 (b + 1) #[.slice ha nh hc] 25 := by
     have h9 := Bz.new (w5.alloc (Obj.cells #[.slice la nl lc] 25)) #[.slice ha nh hc] 25
     simp only [World.size_alloc, hb] at h9
     rw [hw9]
     exact (h9.later ((Below.refl _ _).alloc (Nat.le_refl _) _)).later ((Below.refl _ _).alloc (Nat.le_refl _) _)
    have x2 : Bz w9 (b + 1 + 1) #[.func (.func 46) #[] #[.pointer (some ⟨b, 0, none⟩)], .func (.func 46) #[] #[.pointer (some ⟨b + 1, 0, none⟩)]] 51 := by
     have h9 := Bz.new ((w5.alloc (Obj.cells #[.slice la nl lc] 25)).alloc (Obj.cells #[.slice ha nh hc] 25)) #[.func (Fn.func 46) #[] #[.pointer (some ⟨w5.heap.size, 0, none⟩)], .func (Fn.func 46) #[] #[.pointer (some ⟨w5.heap.size + 1, 0, none⟩)]] 51
     simp only [World.size_alloc, hb] at h9
     rw [hw9]
     simp only [hb]
     exact h9.later ((Below.refl _ _).alloc (Nat.le_refl _) _)
    have x3 : Bz w9 (b + 1 + 1 + 1) #[.slice (some ⟨b + 1 + 1, 0, none⟩) 2 2] 83 := by
     have h9 := Bz.new (((w5.alloc (Obj.cells #[.slice la nl lc] 25)).alloc (Obj.cells #[.slice ha nh hc] 25)).alloc (Obj.cells #[.func (Fn.func 46) #[] #[.pointer (some ⟨w5.heap.size, 0, none⟩)], .func (Fn.func 46) #[] #[.pointer (some ⟨w5.heap.size + 1, 0, none⟩)]] 51)) #[.slice (some ⟨w5.heap.size + 1 + 1, 0, none⟩) 2 2] 83
     simp only [World.size_alloc, hb] at h9
     rw [hw9]
     simp only [hb]
     exact h9
    have B9 := kide (B5.out.trans (hba.mono B5.out.size))
    have HSQ : Hid (∀ n, SeqS n 45 #[.pointer (some ⟨b + 1 + 1 + 1, 0, none⟩)] (ls.map Sg.ct ++ hs.map Sg.ct) w9.heap.size w9) := fun n =>
     turn2_seq hz9 x0 x1 x2 x3 HNL.out hnl2 HNH.out hnh2 (HRL.out.later B9.out) (HRH.out.later B9.out) GS1.out HS1.out HOL.out HOH.out HNOL.out HNOH.out (fun x hx q hq => Nat.lt_of_lt_of_le (HPLL.out x hx q hq) B9.out.size) (fun x hx q hq => Nat.lt_of_lt_of_le (HPLH.out x hx q hq) B9.out.size) n
    have HGA := kide (gather_any 45 _ _ w9 (enters_of Try.func45 (by kernel_rfl) rfl) HSQ.out (fun s hs => by
     rcases List.mem_append.1 hs with hs | hs
     ·have h9 := HOL.out s hs; exact ⟨h9.1, h9.2.1, by have := h9.1.1; omega⟩
     ·have h9 := HOH.out s hs; exact ⟨h9.1, h9.2.1, by have := h9.1.1; omega⟩) (by rw [sumS_append, HSL.out, HSH.out]; omega))
    have hbz : (((w5.alloc (Obj.cells #[.slice la nl lc] 25)).alloc (Obj.cells #[.slice ha nh hc] 25)).alloc (Obj.cells #[.func (Fn.func 46) #[] #[.pointer (some ⟨w5.heap.size, 0, none⟩)], .func (Fn.func 46) #[] #[.pointer (some ⟨w5.heap.size + 1, 0, none⟩)]] 51)).heap.size = b + 1 + 1 + 1 := by simp [hb]
    rw [hbz]
    have HRX : Hid (R = if (formB (formP (ls.map Sg.ct ++ hs.map Sg.ct))).length ≤ 2000 then (formB (formP (ls.map Sg.ct ++ hs.map Sg.ct)), true) else ([], false)) := by
     show _ = _
     rw [HRV.out, formP_app]
     simp only [hle, true_and]
    clear hw9 hba x0 x1 x2 x3 hw6 hw7 hbz
    go_wp2_with fail
    refine Calls.mono HGA.out ?_
    rintro e w10 ⟨hb5, (⟨v, l, rfl, hl5, hn5, ho5, hr5, hx5, hra5, -⟩ | ⟨rfl, h9⟩)⟩
    ·obtain ⟨va, vc, rfl⟩ := ho5.form
     have HFR := kide (fresh_any va l.length vc w9.heap.size true l w10 ho5 rfl hn5 hb5.size hr5 hx5 hra5)
     have B10 := kide (B9.out.trans (hb5.mono B9.out.size))
     have HL5 := kide hl5
     have HZ5 : Hid (w9.heap.size ≤ w10.heap.size) := hb5.size
     have hRR := HRX.out
     rw [if_pos (by rw [← hl5, List.length_map]; exact hn5)] at hRR
     clear ho5 hr5 hx5 hra5 hb5 hl5
     go_wp2_with fail
     refine Calls.mono HFR.out ?_
     rintro e w6 ⟨rfl, m, hm⟩
     have hrow := hm.row
     rw [List.drop_of_length_le (Nat.le_refl _), List.append_nil] at hrow
     have b6 : Below w.heap.size w w6 := B10.out.trans ⟨hm.gr.os, hm.gr.tape, hm.gr.output, hm.gr.size, fun j hj => hm.gr.block j (Nat.lt_of_lt_of_le hj B10.out.size) (fun e => by
      have h8 := (hrow.lt e.symm).1
      have := B9.out.size
      omega)⟩
     have FIN : Hid (RetFd R w (.returned (.tuple #[.slice va l.length vc, .bool true])) w6) := by
      refine ⟨_, m, by rw [hRR], ?_, ⟨hrow.low B9.out.size, fun x hx => (hm.nw x hx).mono (Nat.le_trans B9.out.size HZ5.out)⟩, hm.dj, b6⟩
      rw [hm.ct, List.take_length, HL5.out, hRR]
     clear hm hrow b6
     go_wp2_with fail
     exact bodyPost_ret (v := .tuple #[.slice va l.length vc, .bool true]) (by simp [results, Try.results9, go_sem]) rfl FIN.out
    ·have HFR := kide (fresh_any none 0 0 w10.heap.size false [] w10 (OS5.nil _ _) rfl (by omega) (Nat.le_refl _) (by simp) (by simp) (by simp))
     have B10 := kide (B9.out.trans (hb5.mono B9.out.size))
     have hRR := HRX.out
     rw [if_neg (by omega)] at hRR
     subst hRR
     clear hb5
     go_wp2_with fail
     refine Calls.mono HFR.out ?_
     rintro e w6 ⟨rfl, m, hm⟩
     have b6 : Below w.heap.size w w6 := B10.out.trans ⟨hm.gr.os, hm.gr.tape, hm.gr.output, hm.gr.size, fun j hj => hm.gr.block j (Nat.lt_of_lt_of_le hj B10.out.size) (fun e => by cases e)⟩
     have BF := kide b6
     clear hm b6
     go_wp2_with fail
     exact bodyPost_ret (v := .tuple #[.slice none 0 0, .bool false]) (by simp [results, Try.results9, go_sem]) rfl (NIL.out _ BF.out)
   ·have q1 : (SH : Int) + (SL : Int) > 4096 := by omega
    have hRR := HRV.out
    rw [if_neg (fun h9 => hle h9.1)] at hRR
    subst hRR
    go_wp2_with fail
    exact bodyPost_ret (v := .tuple #[.slice none 0 0, .bool false]) (by simp [results, Try.results9, go_sem]) rfl (NIL.out _ B5.out)
end Go.Proofs.Ytffcklobignlfaa
