/- What is gathered out of an iterator's segments. -/
import Derived.Test.YtffcklobignlfaaRX
import Derived.Test.YtffcklobignlfaaGAX
import Derived.Test.YtffcklobignlfaaRXI
import Derived.Handy
namespace Go.Proofs.Ytffcklobignlfaa
set_option linter.unusedVariables false
set_option linter.unusedSimpArgs false
open Go.RowKit Go.Shelf
attribute [local go_sem] Oper.semAt_some
def RetGa (L : List Sc) (w : World) (e : Ending) (w' : World) : Prop := Below w.heap.size w w' ∧ ((∃ v l, e = .returned (.tuple #[v, .bool true]) ∧ l.map Sg.ct = formB (formP L) ∧ l.length ≤ 2000 ∧ OS5 w' w.heap.size v l ∧ (∀ x ∈ l, Rd w' x.a x.ct.ws) ∧ (∀ x ∈ l, x.a = none → x.c = 0) ∧ (∀ x ∈ l, ∀ p, x.a = some p → v.ownBlock ≠ some p.block) ∧ ∀ x ∈ l, ∀ p, x.a = some p → p.block < w'.heap.size) ∨
 (e = .returned (.tuple #[.slice none 0 0, .bool false]) ∧ 2000 < (formB (formP L)).length))
set_option maxHeartbeats 4000000 in
set_option maxRecDepth 100000 in
theorem gather_any (gf : Nat) (lb : Array Value) (L : List Sc) (w : World) (hent : ∀ (args : Array Value) (w : World), (callFunc gf args).run Try.prog w = .ok (.enter gf args) w) (hseq : ∀ n, SeqS n gf lb L w.heap.size w) (hok : ∀ s ∈ L, okS s ∧ 0 ≤ s.lo ∧ s.lo ≤ 4096) (hsum : sumS L ≤ 4096) :
  Calls Try.prog 21 #[.func (.func gf) #[] lb] w (RetGa L w) := by
 have HSQ := kide hseq
 have HOK := kide hok
 have HSM := kide hsum
 have HEN := kide hent
 obtain ⟨b, hb⟩ : ∃ b, w.heap.size = b := ⟨_, rfl⟩
 have HB := kide hb
 clear hseq hok hsum hent
 have A4 : Hid (Below w.heap.size w ((((w.alloc (Obj.cells #[.slice none 0 0] 25)).alloc (Obj.cells #[.bool false] 4)).alloc (Obj.cells #[.slice none 0 0] 25)).alloc (Obj.cells #[.bool false] 4))) := ((((Below.refl _ _).alloc (Nat.le_refl _) _).alloc (by simp) _).alloc (by simp; omega) _).alloc (by simp; omega) _
 refine (callsIn_wide (n := 5)).1 ?_
 refine callsIn_of_wp_marks Try.func21 rfl trivial ?_ rfl
 simp only [Try.ntmps21, List.size_toArray, List.length_cons, List.length_nil, Nat.reduceAdd, Nat.reduceSub, Array.replicate_succ, Array.replicate_zero, List.push_toArray, List.append_toArray, List.nil_append, List.cons_append]
 have G4 : Hid (Gi w b L [] false (.slice none 0 0) [] ((((w.alloc (Obj.cells #[.slice none 0 0] 25)).alloc (Obj.cells #[.bool false] 4)).alloc (Obj.cells #[.slice none 0 0] 25)).alloc (Obj.cells #[.bool false] 4))) := by
  have q0 := Bz.new w #[.slice none 0 0] 25
  have q1 := Bz.new (w.alloc (Obj.cells #[.slice none 0 0] 25)) #[.bool false] 4
  have q2 := Bz.new ((w.alloc (Obj.cells #[.slice none 0 0] 25)).alloc (Obj.cells #[.bool false] 4)) #[.slice none 0 0] 25
  have q3 := Bz.new (((w.alloc (Obj.cells #[.slice none 0 0] 25)).alloc (Obj.cells #[.bool false] 4)).alloc (Obj.cells #[.slice none 0 0] 25)) #[.bool false] 4
  simp only [World.size_alloc, hb] at q0 q1 q2 q3
  refine ⟨((q0.later ((Below.refl _ _).alloc (Nat.le_refl _) _)).later ((Below.refl _ _).alloc (Nat.le_refl _) _)).later ((Below.refl _ _).alloc (Nat.le_refl _) _), (q1.later ((Below.refl _ _).alloc (Nat.le_refl _) _)).later ((Below.refl _ _).alloc (Nat.le_refl _) _), q2.later ((Below.refl _ _).alloc (Nat.le_refl _) _), q3, OS5.nil _ _, ⟨by simp, by simp⟩, rfl, by simp, by simp, by simp, by simp, by simp, fun e => by (cases e), by simp, ⟨L, rfl⟩, by rw [← hb]; exact A4.out⟩
 have hz4 : ((((w.alloc (Obj.cells #[.slice none 0 0] 25)).alloc (Obj.cells #[.bool false] 4)).alloc (Obj.cells #[.slice none 0 0] 25)).alloc (Obj.cells #[.bool false] 4)).heap.size = b + 4 := by simp [hb]
 have HZ4 := kide hz4
 clear hz4
 rw [hb] at HSQ A4
 have HSQ5 := kide (HSQ.out (5 - 1))
 gi_wp2
 generalize ((((w.alloc (Obj.cells #[.slice none 0 0] 25)).alloc (Obj.cells #[.bool false] 4)).alloc (Obj.cells #[.slice none 0 0] 25)).alloc (Obj.cells #[.bool false] 4)) = w4 at *
 have hz4 := HZ4.out
 refine wpIn_rangeW (F := Fence.wide) rfl (fun _ => by omega) (gf := gf) (lb := lb) rfl trivial HEN.out HSQ5.out ?kr (fun h k => h.trans k) ?kb ?rp A4.out (fun _ => rfl)
  (fun s W => ∃ ow v l, Gi w b L s.1 ow v l W ∧ s.2 = OG b ow v l) (fun pre W => Below b w W ∧ 2000 < (formB (formP (pre.map Sg.ct))).length ∧ Bz W b #[.slice none 0 0] 25 ∧ Bz W (b + 1) #[.bool false] 4) (OG b false (.slice none 0 0) []) ?hi ?hix ?ho ⟨_, _, _, G4.out, rfl⟩
  (fun T x a' W => ∃ Bx, b + 4 ≤ Bx ∧ T ≤ Bx ∧ Bz W Bx #[.int .i64 x.ct.v, .int .i64 x.ct.lo, .int .i64 x.ct.wd, .int .i64 x.ct.bw, .slice x.a x.ct.ws.length x.c] 34 ∧ a' = { tmps := #[.func (Fn.func gf) #[] lb, undef, .pointer (some ⟨b, 0, none⟩), .pointer (some ⟨b + 1, 0, none⟩), .pointer (some ⟨b + 1 + 1, 0, none⟩), .pointer (some ⟨b + 1 + 1 + 1, 0, none⟩), .pointer (some ⟨Bx, 0, none⟩), undef, .func (Fn.func gf) #[] lb, sgV x, undef, undef, undef, undef, undef, undef, undef, undef, undef, undef, undef, undef, undef, undef, undef, undef, undef, undef, undef, undef, undef, undef, undef, undef, undef, undef, undef, undef, undef, undef, undef, undef, undef, undef, undef, undef, undef, undef, undef, undef, undef, undef, undef, undef], defers := [] }) ?hax ?assign ?body ?done ?stop
 case kr =>
  intro o o'
  exact ((Below.refl b w4).alloc (by omega) _).alloc (by simp; omega) _
 case kb =>
  intro W l o o' hl _ _
  exact ⟨rfl, rfl, rfl, by simp, fun k hk => World.putObj_heap_other (fun e => by omega)⟩
 case rp =>
  rintro T pre x W l o o' hl hc ⟨h1, h2, h3, h4⟩
  exact ⟨h1, cz_rd h2 (Cz.put o' hl hc), h3, fun p hp => ⟨(h4 p hp).1, by have := (h4 p hp).2; simpa using this⟩⟩
 case hi =>
  rintro s A B row ⟨ow, v, l, h, hO9⟩ hg hr
  refine ⟨ow, v, l, h.cz (cz_grown hg (fun r e => (hr r e).2)) (h.bel.trans ⟨hg.os, hg.tape, hg.output, hg.size, fun k hk => hg.block k ?_ ?_⟩), hO9⟩
  ·have := h.r0.lt; omega
  ·intro e; have := (hr k e.symm).1; omega
 case hix =>
  rintro s A B row ⟨h1, h2, h3, h4⟩ hg hr
  have hc := cz_grown hg (fun r e => (hr r e).2)
  refine ⟨h1.trans ⟨hg.os, hg.tape, hg.output, hg.size, fun k hk => hg.block k ?_ ?_⟩, h2, cz_bz h3 hc, cz_bz h4 hc⟩
  ·have := h3.lt; omega
  ·intro e; have := (hr k e.symm).1; omega
 case ho =>
  rintro s W ⟨ow, v, l, h, hO9⟩ k hk
  rw [hO9] at hk
  exact h.lt k hk
 case hax =>
  rintro T x a' _ A B row ⟨Bx, h1, h4, h2, h3⟩ hg hr
  exact ⟨Bx, h1, h4, cz_bz h2 (cz_grown hg (fun r e => (hr r e).2)), h3⟩
 case assign =>
  rintro l T pre O x W K hTW ⟨ow, v, l0, h, hO9⟩ ⟨r1, r2, r3, r4⟩ hK
  have hlt := h.ox.lt
  have hba : Below W.heap.size W (W.alloc (Obj.cells #[.int .i64 x.ct.v, .int .i64 x.ct.lo, .int .i64 x.ct.wd, .int .i64 x.ct.bw, .slice x.a x.ct.ws.length x.c] 34)) := (Below.refl _ _).alloc (Nat.le_refl _) _
  unfold sgV
  gi_wp2
  exact hK _ _ ((KeepsOthers.alloc _ _).from _) (hba.mono (by omega)) (Cz.below hba) ⟨ow, v, l0, h.later hba (by omega), hO9⟩ ⟨r1, r2.later hba, r3, fun p hp => ⟨(r4 p hp).1, Nat.lt_of_lt_of_le (r4 p hp).2 hba.size⟩⟩ ⟨W.heap.size, by omega, hTW, Bz.new W _ _, rfl⟩
 case body =>
  rintro lq pre O x a' W0 W hlq ⟨ow, v, k, hi0, hO9⟩ hcz ⟨_, _, _, hi1, -⟩ ⟨q1, q2, q3, q4⟩ ⟨Bx, hBx, hBT, hX, rfl⟩
  simp only [] at hi0 hi1 hO9
  subst hO9
  have hg := hi0.cz hcz hi1.bel
  have PL0 := kide hi0.pl
  have hW0 : W0.heap.size ≤ W.heap.size := hcz.1
  have HBX := kide hBT
  clear hBT
  have HRW0 : Hid (∀ g, v.ownBlock = some g → g < W0.heap.size) := fun g hg9 => (hi0.row.lt hg9).2
  have hmem : x.ct ∈ L := by
   obtain ⟨r, hr⟩ := q1
   rw [← hr]
   simp
  obtain ⟨hxo, hxl⟩ := HOK.out x.ct hmem
  have HXO := kide hxo
  have HQ1 := kide q1
  have HQ2 := kide q2
  have HQ3 := kide q3
  have HQ4 := kide q4
  have HX := kide hX
  have HG := kide hg
  have hfx := hg.fx.cell 0
  have hlt := hg.ox.lt
  have hmx : Try.prog.follows .mixedOrders = true := by kernel_rfl
  obtain ⟨va, vc, rfl⟩ := hg.row.form
  obtain ⟨N, hN⟩ : ∃ N, k.length = N := ⟨_, rfl⟩
  rw [hN] at hfx HG HRW0
  have HN := kide hN
  have hN2 : N ≤ 2000 := by have := hg.len; omega
  simp at hfx
  clear hi0 hi1 hcz q1 q2 q3 q4 hX hg hmem hxo
  unfold sgV
  rcases List.eq_nil_or_concat k with hk | ⟨k', y, hk⟩
  ·subst hk
   obtain rfl : N = 0 := by have := HN.out; simpa using this.symm
   gi_wp2
   refine wpIn_region_x (SA := fun _ => False) (SB := fun uu => Below W.heap.size W uu) (k := 999) hmx (by kernel_rfl) ?_
   have hm0 : Hid (Below W.heap.size W W.drew) := (Below.refl _ _).drew
   generalize W.drew = m0 at *
   try go_simp
   refine tkB (T := fun uu => Below W.heap.size W uu) (i := 0) (v := Value.int .i64 (-1)) rfl (by kernel_rfl) (fun _ _ _ h => by first | exact h | exact h.elim) (fun _ h => h.elim) (fun _ h => h) (Sx.behind (by kernel_rfl) hm0.out) (Or.inl ⟨by rfl, fun uu hu => by go_simp⟩) ?_
   try go_simp
   refine tkB (T := fun uu => Below W.heap.size W uu) (i := 1) (v := Value.bool false) rfl (by kernel_rfl) (fun _ _ _ h => by first | exact h | exact h.elim) (fun _ h => h.elim) (fun _ h => h) (Sx.behind (by kernel_rfl) hm0.out) (Or.inl ⟨by rfl, fun uu hu => by go_simp⟩) ?_
   try go_simp
   refine tkB (T := fun uu => Below W.heap.size W uu) (i := 2) (v := Value.bool false) rfl (by kernel_rfl) (fun _ _ _ h => by first | exact h | exact h.elim) (fun _ h => h.elim) (fun _ h => h) (Sx.behind (by kernel_rfl) hm0.out) (Or.inl ⟨by rfl, fun uu hu => by go_simp⟩) ?_
   try go_simp
   refine tkB (T := fun uu => Below W.heap.size W uu) (i := 3) (v := undef) rfl (by kernel_rfl) (fun _ _ _ h => by first | exact h | exact h.elim) (fun _ h => h.elim) (fun _ h => h) (Sx.behind (by kernel_rfl) hm0.out) (Or.inr ⟨by rfl, rfl⟩) ?_
   try go_simp
   refine tkB (T := fun uu => Below W.heap.size W uu) (i := 4) (v := undef) rfl (by kernel_rfl) (fun _ _ _ h => by first | exact h | exact h.elim) (fun _ h => h.elim) (fun _ h => h) (Sx.behind (by kernel_rfl) hm0.out) (Or.inr ⟨by rfl, rfl⟩) ?_
   try go_simp
   refine tkB (T := fun uu => Below W.heap.size W uu) (i := 5) (v := undef) rfl (by kernel_rfl) (fun _ _ _ h => by first | exact h | exact h.elim) (fun _ h => h.elim) (fun _ h => h) (Sx.behind (by kernel_rfl) hm0.out) (Or.inr ⟨by rfl, rfl⟩) ?_
   try go_simp
   refine tkB (T := fun uu => Below W.heap.size W uu) (i := 6) (v := undef) rfl (by kernel_rfl) (fun _ _ _ h => by first | exact h | exact h.elim) (fun _ h => h.elim) (fun _ h => h) (Sx.behind (by kernel_rfl) hm0.out) (Or.inr ⟨by rfl, rfl⟩) ?_
   try go_simp
   refine tkB (T := fun uu => Below W.heap.size W uu) (i := 7) (v := undef) rfl (by kernel_rfl) (fun _ _ _ h => by first | exact h | exact h.elim) (fun _ h => h.elim) (fun _ h => h) (Sx.behind (by kernel_rfl) hm0.out) (Or.inr ⟨by rfl, rfl⟩) ?_
   try go_simp
   refine tkB (T := fun uu => Below W.heap.size W uu) (i := 8) (v := undef) rfl (by kernel_rfl) (fun _ _ _ h => by first | exact h | exact h.elim) (fun _ h => h.elim) (fun _ h => h) (Sx.behind (by kernel_rfl) hm0.out) (Or.inr ⟨by rfl, rfl⟩) ?_
   try go_simp
   refine tkB (T := fun uu => Below W.heap.size W uu) (i := 9) (v := Value.bool false) rfl (by kernel_rfl) (fun _ _ _ h => by first | exact h | exact h.elim) (fun _ h => h.elim) (fun _ h => h) (Sx.behind (by kernel_rfl) hm0.out) (Or.inl ⟨by rfl, fun uu hu => by go_simp⟩) ?_
   try go_simp
   refine tkB (T := fun uu => Below W.heap.size W uu) (i := 10) (v := Value.bool false) rfl (by kernel_rfl) (fun _ _ _ h => by first | exact h | exact h.elim) (fun _ h => h.elim) (fun _ h => h) (Sx.behind (by kernel_rfl) hm0.out) (Or.inl ⟨by rfl, fun uu hu => by go_simp⟩) ?_
   try go_simp
   refine wpAnyX_done (by kernel_rfl) ?_ _
   refine onlyN_in ?_
   have GM : Hid (Gi w b L pre ow (.slice va 0 vc) [] m0) := HG.out.later hm0.out (by omega)
   have XM := kide (HX.out.later hm0.out)
   have RM := kide (HQ2.out.later hm0.out)
   have NZ0 := kide (Nz.below hm0.out)
   have BW0 : Hid (Below b W m0) := hm0.out.mono (by omega)
   have f0 := GM.out.fx.cell 0
   have o0 := GM.out.ox.cell 0
   have f1 := GM.out.fx.froz 0
   have o1 := GM.out.ox.froz 0
   have x0 := XM.out.cell 0
   have x1 := XM.out.cell 1
   have x2 := XM.out.cell 2
   have x3 := XM.out.cell 3
   have x4 := XM.out.cell 4
   simp at f0 o0 x0 x1 x2 x3 x4
   have BA : Hid (Below m0.heap.size m0 (m0.alloc (Obj.cells #[.int .i64 x.ct.v, .int .i64 x.ct.lo, .int .i64 x.ct.wd, .int .i64 x.ct.bw, .slice x.a x.ct.ws.length x.c] 34))) := (Below.refl _ _).alloc (Nat.le_refl _) _
   have hzm : W.heap.size ≤ m0.heap.size := hm0.out.size
   have GA := kide (GM.out.later BA.out (by omega))
   have RA := kide (RM.out.later BA.out)
   have XA := kide (Bz.new m0 #[.int .i64 x.ct.v, .int .i64 x.ct.lo, .int .i64 x.ct.wd, .int .i64 x.ct.bw, .slice x.a x.ct.ws.length x.c] 34)
   have hsz : b ≤ (m0.alloc (Obj.cells #[.int .i64 x.ct.v, .int .i64 x.ct.lo, .int .i64 x.ct.wd, .int .i64 x.ct.bw, .slice x.a x.ct.ws.length x.c] 34)).heap.size := by simp; omega
   have hll : ([] : List Sg).length ≤ 1048576 := by simp
   have HQA : Hid (∀ p, x.a = some p → (Value.slice va 0 vc).ownBlock ≠ some p.block ∧ p.block < (m0.alloc (Obj.cells #[.int .i64 x.ct.v, .int .i64 x.ct.lo, .int .i64 x.ct.wd, .int .i64 x.ct.bw, .slice x.a x.ct.ws.length x.c] 34)).heap.size) := fun p hp => by
    have h9 := HQ4.out p hp
    refine ⟨fun e => ?_, by simp; omega⟩
    have h8 := HRW0.out _ e
    have h7 := (HG.out.row.lt e).1
    omega
   skip
   gi_wp2_with (gi_at_builtin; refine wpListIn_appS5 rfl _ _ rfl b _ [] x rfl GA.out.row _ _ rfl XA.out hll hsz ?_)
   intro g6 c6 w6 ho6 hg6 hl6
   have hgA := GA.out.app (k := []) (x := x) (N := 0) ho6 hg6 (by first | exact hl6 | simpa using hl6) HQ1.out RA.out HQ3.out HQA.out hxl (Nf.one HXO.out) (by first | (simp; done) | (rw [HN.out]; omega))
   have HGA := kide hgA
   have u0 := (bz_os5 GA.out.fx GA.out.row (by decide) hg6).cell 0
   have u1 := (bz_os5 GA.out.fx GA.out.row (by decide) hg6).froz 0
   have t0 := (bz_os5 GA.out.ox GA.out.row (by decide) hg6).cell 0
   have t1 := (bz_os5 GA.out.ox GA.out.row (by decide) hg6).froz 0
   simp at u0 t0
   have KA := kide (app_ko (x := x) (c6 := c6) (k := []) (ow := ow) (((Ko.refl (OG b ow (.slice va 0 vc) []) W).below hm0.out).below BA.out) hg6 (by first | exact hl6 | simpa using hl6))
   clear ho6 hg6 hl6 hgA
   gi_wp2
   obtain ⟨G9, N9, B9⟩ := HGA.out
   exact ⟨((NZ0.out.trans (Nz.below BA.out)).trans N9).keeps _, (BW0.out.trans (BA.out.mono (by omega))).trans B9, KA.out.1, _, ⟨false, _, _, G9, rfl⟩, KA.out.2⟩
  ·rw [List.concat_eq_append] at hk
   subst hk
   obtain ⟨M, hM⟩ : ∃ M, k'.length = M := ⟨_, rfl⟩
   have hNM : N = M + 1 := by have := HN.out; simp at this; omega
   have hNi : (N : Int) - 1 = (M : Int) := by omega
   have hMw : IntKind.i64.wrap (M : Int) = (M : Int) := by rw [IntKind.wrap_i64]; first | omega | (unfold wrap64; omega)
   have hMn : (M : Int) < (N : Int) := by omega
   have hM0 : (M : Int) ≥ 0 := by omega
   obtain ⟨g, rfl⟩ : ∃ g, va = some ⟨g, 0, none⟩ := by
    rcases HG.out.row.2 with ⟨e, h9⟩ | ⟨g, cap, cur, e, -⟩
    ·simp at h9
    ·cases e; exact ⟨g, rfl⟩
   obtain ⟨c0, c1, c2, c3, c4⟩ := os5_last HG.out.row hM
   have lg := (HG.out.row.lt (b := g) rfl).2
   have lf := HG.out.fx.lt
   have lx := HX.out.lt
   have d0 := HX.out.cell 0
   have d1 := HX.out.cell 1
   have d2 := HX.out.cell 2
   have d3 := HX.out.cell 3
   have d4 := HX.out.cell 4
   simp at d0 d1 d2 d3 d4
   have hyl := HG.out.lo y (by simp)
   have hyo : okS y.ct := HG.out.nf.ok y.ct (by simp)
   have HYO := kide hyo
   have HCO := kide (fun u => couldBeOne_any y.ct x.ct y.a x.a y.c x.c u hyl ⟨by have := hyo.1; omega, hyo.2.1⟩)
   have HMM := kide hM
   clear hM hyo hNM
   cases hone : oneB y.ct x.ct with
   | false =>
    rw [hone] at HCO
    have HNF : Hid (Nf ((k' ++ [y]).map Sg.ct ++ [x.ct])) := by
     show Nf _
     rw [List.map_append]
     exact Nf.snoc (by have := HG.out.nf; rw [List.map_append] at this; exact this) HXO.out hone
    clear hone
    gi_wp2
    refine wpIn_region_x (SA := fun _ => False) (SB := fun uu => Below W.heap.size W uu) (k := 999) hmx (by kernel_rfl) ?_
    have hm0 : Hid (Below W.heap.size W W.drew) := (Below.refl _ _).drew
    generalize W.drew = m0 at *
    try go_simp
    refine tkB (T := fun uu => Below W.heap.size W uu) (i := 0) (v := Value.int .i64 (M : Int)) rfl (by kernel_rfl) (fun _ _ _ h => by first | exact h | exact h.elim) (fun _ h => h.elim) (fun _ h => h) (Sx.behind (by kernel_rfl) hm0.out) (Or.inl ⟨by rfl, fun uu hu => by go_simp⟩) ?_
    try go_simp
    refine tkB (T := fun uu => Below W.heap.size W uu) (i := 1) (v := Value.bool true) rfl (by kernel_rfl) (fun _ _ _ h => by first | exact h | exact h.elim) (fun _ h => h.elim) (fun _ h => h) (Sx.behind (by kernel_rfl) hm0.out) (Or.inl ⟨by rfl, fun uu hu => by go_simp⟩) ?_
    try go_simp
    refine tkB (T := fun uu => Below W.heap.size W uu) (i := 2) (v := Value.bool true) rfl (by kernel_rfl) (fun _ _ _ h => by first | exact h | exact h.elim) (fun _ h => h.elim) (fun _ h => h) (Sx.behind (by kernel_rfl) hm0.out) (Or.inl ⟨by rfl, fun uu hu => by go_simp⟩) ?_
    try go_simp
    refine tkB (T := fun uu => Below W.heap.size W uu) (i := 3) (v := Value.slice (some ⟨g, 0, none⟩) N vc) rfl (by kernel_rfl) (fun _ _ _ h => by first | exact h | exact h.elim) (fun _ h => h.elim) (fun _ h => h) (Sx.behind (by kernel_rfl) hm0.out) (Or.inl ⟨by rfl, fun uu hu => by have e0 := (kcell hu (b + 1 + 1) 0 lf).trans hfx; go_simp⟩) ?_
    try go_simp
    refine tkB (T := fun uu => Below W.heap.size W uu) (i := 4) (v := Value.int .i64 (M : Int)) rfl (by kernel_rfl) (fun _ _ _ h => by first | exact h | exact h.elim) (fun _ h => h.elim) (fun _ h => h) (Sx.behind (by kernel_rfl) hm0.out) (Or.inl ⟨by rfl, fun uu hu => by go_simp⟩) ?_
    try go_simp
    refine tkB (T := fun uu => Below W.heap.size W uu) (i := 5) (v := Value.pointer (some ⟨g, M * 5, none⟩)) rfl (by kernel_rfl) (fun _ _ _ h => by first | exact h | exact h.elim) (fun _ h => h.elim) (fun _ h => h) (Sx.behind (by kernel_rfl) hm0.out) (Or.inl ⟨by rfl, fun uu hu => by go_simp⟩) ?_
    try go_simp
    refine tkB (T := fun uu => Below W.heap.size W uu) (i := 6) (v := Value.agg #[.int .i64 y.ct.v, .int .i64 y.ct.lo, .int .i64 y.ct.wd, .int .i64 y.ct.bw, .slice y.a y.ct.ws.length y.c]) rfl (by kernel_rfl) (fun _ _ _ h => by first | exact h | exact h.elim) (fun _ h => h.elim) (fun _ h => h) (Sx.behind (by kernel_rfl) hm0.out) (Or.inl ⟨by rfl, fun uu hu => by have e0 := (kcell hu g (M * 5) lg).trans c0; have e1 := (kcell hu g (M * 5 + 1) lg).trans c1; have e2 := (kcell hu g (M * 5 + 2) lg).trans c2; have e3 := (kcell hu g (M * 5 + 3) lg).trans c3; have e4 := (kcell hu g (M * 5 + 4) lg).trans c4; go_simp⟩) ?_
    try go_simp
    refine tkB (T := fun uu => Below W.heap.size W uu) (i := 7) (v := Value.agg #[.int .i64 x.ct.v, .int .i64 x.ct.lo, .int .i64 x.ct.wd, .int .i64 x.ct.bw, .slice x.a x.ct.ws.length x.c]) rfl (by kernel_rfl) (fun _ _ _ h => by first | exact h | exact h.elim) (fun _ h => h.elim) (fun _ h => h) (Sx.behind (by kernel_rfl) hm0.out) (Or.inl ⟨by rfl, fun uu hu => by have e0 := (kcell hu Bx 0 lx).trans d0; have e1 := (kcell hu Bx 1 lx).trans d1; have e2 := (kcell hu Bx 2 lx).trans d2; have e3 := (kcell hu Bx 3 lx).trans d3; have e4 := (kcell hu Bx 4 lx).trans d4; go_simp⟩) ?_
    try go_simp
    refine wpAnyX_ready (rs := [8]) (by kernel_rfl) (by simp) (AllX.cons rfl (fun K hK => ?_) AllX.nil)
    go_simp
    refine Calls.mono (HCO.out m0) ?_
    rintro e m1 ⟨rfl, hbq⟩
    have hm1 : Hid (Below W.heap.size W m1) := hm0.out.trans (hbq.mono hm0.out.size)
    refine hK _ _ (Sx.behind (by kernel_rfl) hm1.out) ?_
    clear hK K hbq
    try go_simp
    refine tkB (T := fun uu => Below W.heap.size W uu) (i := 9) (v := Value.bool false) rfl (by kernel_rfl) (fun _ _ _ h => by first | exact h | exact h.elim) (fun _ h => h.elim) (fun _ h => h) (Sx.behind (by kernel_rfl) hm1.out) (Or.inl ⟨by rfl, fun uu hu => by go_simp⟩) ?_
    try go_simp
    refine tkB (T := fun uu => Below W.heap.size W uu) (i := 10) (v := Value.bool false) rfl (by kernel_rfl) (fun _ _ _ h => by first | exact h | exact h.elim) (fun _ h => h.elim) (fun _ h => h) (Sx.behind (by kernel_rfl) hm1.out) (Or.inl ⟨by rfl, fun uu hu => by go_simp⟩) ?_
    try go_simp
    refine wpAnyX_done (by kernel_rfl) ?_ _
    refine onlyN_in ?_
    by_cases h20 : N = 2000
    ·subst h20
     have GM : Hid (Gi w b L pre ow (.slice (some ⟨g, 0, none⟩) 2000 vc) (k' ++ [y]) m1) := HG.out.later hm1.out (by omega)
     have f0 := GM.out.fx.cell 0
     have r0 := GM.out.r0.cell 0
     have r1 := GM.out.r1.cell 0
     have r2 := GM.out.r0.froz 0
     have r3 := GM.out.r1.froz 0
     simp at f0 r0 r1
     have Y0 : Hid (Bz (m1.setCell ⟨b, 0, none⟩ (Value.slice none 0 0)) b #[.slice none 0 0] 25) := GM.out.r0.set 0 _
     have Y1 : Hid (Bz ((m1.setCell ⟨b, 0, none⟩ (Value.slice none 0 0)).setCell ⟨b + 1, 0, none⟩ (Value.bool false)) b #[.slice none 0 0] 25) := Y0.out.other (by omega) 0 _
     have Y3 : Hid (Bz (m1.setCell ⟨b, 0, none⟩ (Value.slice none 0 0)) (b + 1) #[.bool false] 4) := GM.out.r1.other (by omega) 0 _
     have Y2 : Hid (Bz ((m1.setCell ⟨b, 0, none⟩ (Value.slice none 0 0)).setCell ⟨b + 1, 0, none⟩ (Value.bool false)) (b + 1) #[.bool false] 4) := Y3.out.set 0 _
     have NZ : Hid (Nz W ((m1.setCell ⟨b, 0, none⟩ (Value.slice none 0 0)).setCell ⟨b + 1, 0, none⟩ (Value.bool false))) := ((Nz.below hm1.out).trans (Nz.set GM.out.r0 _)).trans (Nz.set Y3.out _)
     have BB : Hid (Below b w ((m1.setCell ⟨b, 0, none⟩ (Value.slice none 0 0)).setCell ⟨b + 1, 0, none⟩ (Value.bool false))) := (GM.out.bel.setCell (p := ⟨b, 0, none⟩) (Nat.le_refl _) _).setCell (p := ⟨b + 1, 0, none⟩) (Nat.le_succ _) _
     have LL : Hid (2000 < (formB (formP ((pre ++ [x]).map Sg.ct))).length) := by
      show _ < _
      have h9 := HG.out.bits
      rw [List.map_append, formP_app, ← h9, ← formP_app, show [x].map Sg.ct = [x.ct] from rfl, formB_nf HNF.out, List.length_append, List.length_map, HN.out]
      simp
     gi_wp2
     exact ⟨NZ.out.keeps _, BB.out, LL.out, Y1.out, Y2.out⟩
    ·have h21 : ((N : Int) == 2000) = false := by simp; omega
     have h22 : ¬ ((N : Int) = 2000) := by omega
     have GM : Hid (Gi w b L pre ow (.slice (some ⟨g, 0, none⟩) N vc) (k' ++ [y]) m1) := HG.out.later hm1.out (by omega)
     have XM := kide (HX.out.later hm1.out)
     have RM := kide (HQ2.out.later hm1.out)
     have NZ0 := kide (Nz.below hm1.out)
     have BW0 : Hid (Below b W m1) := hm1.out.mono (by omega)
     have f0 := GM.out.fx.cell 0
     have o0 := GM.out.ox.cell 0
     have f1 := GM.out.fx.froz 0
     have o1 := GM.out.ox.froz 0
     have x0 := XM.out.cell 0
     have x1 := XM.out.cell 1
     have x2 := XM.out.cell 2
     have x3 := XM.out.cell 3
     have x4 := XM.out.cell 4
     simp at f0 o0 x0 x1 x2 x3 x4
     have BA : Hid (Below m1.heap.size m1 (m1.alloc (Obj.cells #[.int .i64 x.ct.v, .int .i64 x.ct.lo, .int .i64 x.ct.wd, .int .i64 x.ct.bw, .slice x.a x.ct.ws.length x.c] 34))) := (Below.refl _ _).alloc (Nat.le_refl _) _
     have hzm : W.heap.size ≤ m1.heap.size := hm1.out.size
     have GA := kide (GM.out.later BA.out (by omega))
     have RA := kide (RM.out.later BA.out)
     have XA := kide (Bz.new m1 #[.int .i64 x.ct.v, .int .i64 x.ct.lo, .int .i64 x.ct.wd, .int .i64 x.ct.bw, .slice x.a x.ct.ws.length x.c] 34)
     have hsz : b ≤ (m1.alloc (Obj.cells #[.int .i64 x.ct.v, .int .i64 x.ct.lo, .int .i64 x.ct.wd, .int .i64 x.ct.bw, .slice x.a x.ct.ws.length x.c] 34)).heap.size := by simp; omega
     have hll : ((k' ++ [y]) : List Sg).length ≤ 1048576 := by rw [HN.out]; omega
     have HQA : Hid (∀ p, x.a = some p → (Value.slice (some ⟨g, 0, none⟩) N vc).ownBlock ≠ some p.block ∧ p.block < (m1.alloc (Obj.cells #[.int .i64 x.ct.v, .int .i64 x.ct.lo, .int .i64 x.ct.wd, .int .i64 x.ct.bw, .slice x.a x.ct.ws.length x.c] 34)).heap.size) := fun p hp => by
      have h9 := HQ4.out p hp
      refine ⟨fun e => ?_, by simp; omega⟩
      have h8 := HRW0.out _ e
      have h7 := (HG.out.row.lt e).1
      omega
     skip
     gi_wp2_with (gi_at_builtin; refine wpListIn_appS5 rfl _ _ rfl b _ (k' ++ [y]) x rfl GA.out.row _ _ rfl XA.out hll hsz ?_)
     intro g6 c6 w6 ho6 hg6 hl6
     have hgA := GA.out.app (k := (k' ++ [y])) (x := x) (N := N) (by rw [List.append_assoc]; exact ho6) hg6 (by first | exact hl6 | simpa using hl6) HQ1.out RA.out HQ3.out HQA.out hxl HNF.out (by first | (simp; done) | (rw [HN.out]; omega))
     have HGA := kide hgA
     have u0 := (bz_os5 GA.out.fx GA.out.row (by decide) hg6).cell 0
     have u1 := (bz_os5 GA.out.fx GA.out.row (by decide) hg6).froz 0
     have t0 := (bz_os5 GA.out.ox GA.out.row (by decide) hg6).cell 0
     have t1 := (bz_os5 GA.out.ox GA.out.row (by decide) hg6).froz 0
     simp at u0 t0
     have KA := kide (app_ko (x := x) (c6 := c6) (k := (k' ++ [y])) (ow := ow) (((Ko.refl (OG b ow (.slice (some ⟨g, 0, none⟩) N vc) (k' ++ [y])) W).below hm1.out).below BA.out) hg6 (by first | exact hl6 | simpa using hl6))
     clear ho6 hg6 hl6 hgA
     gi_wp2
     obtain ⟨G9, N9, B9⟩ := HGA.out
     exact ⟨((NZ0.out.trans (Nz.below BA.out)).trans N9).keeps _, (BW0.out.trans (BA.out.mono (by omega))).trans B9, KA.out.1, _, ⟨false, _, _, G9, rfl⟩, KA.out.2⟩
   | true =>
    rw [hone] at HCO
    have HON := kide hone
    clear hone
    gi_wp2
    refine wpIn_region_x (SA := fun _ => False) (SB := fun uu => Below W.heap.size W uu) (k := 999) hmx (by kernel_rfl) ?_
    have hm0 : Hid (Below W.heap.size W W.drew) := (Below.refl _ _).drew
    generalize W.drew = m0 at *
    try go_simp
    refine tkB (T := fun uu => Below W.heap.size W uu) (i := 0) (v := Value.int .i64 (M : Int)) rfl (by kernel_rfl) (fun _ _ _ h => by first | exact h | exact h.elim) (fun _ h => h.elim) (fun _ h => h) (Sx.behind (by kernel_rfl) hm0.out) (Or.inl ⟨by rfl, fun uu hu => by go_simp⟩) ?_
    try go_simp
    refine tkB (T := fun uu => Below W.heap.size W uu) (i := 1) (v := Value.bool true) rfl (by kernel_rfl) (fun _ _ _ h => by first | exact h | exact h.elim) (fun _ h => h.elim) (fun _ h => h) (Sx.behind (by kernel_rfl) hm0.out) (Or.inl ⟨by rfl, fun uu hu => by go_simp⟩) ?_
    try go_simp
    refine tkB (T := fun uu => Below W.heap.size W uu) (i := 2) (v := Value.bool true) rfl (by kernel_rfl) (fun _ _ _ h => by first | exact h | exact h.elim) (fun _ h => h.elim) (fun _ h => h) (Sx.behind (by kernel_rfl) hm0.out) (Or.inl ⟨by rfl, fun uu hu => by go_simp⟩) ?_
    try go_simp
    refine tkB (T := fun uu => Below W.heap.size W uu) (i := 3) (v := Value.slice (some ⟨g, 0, none⟩) N vc) rfl (by kernel_rfl) (fun _ _ _ h => by first | exact h | exact h.elim) (fun _ h => h.elim) (fun _ h => h) (Sx.behind (by kernel_rfl) hm0.out) (Or.inl ⟨by rfl, fun uu hu => by have e0 := (kcell hu (b + 1 + 1) 0 lf).trans hfx; go_simp⟩) ?_
    try go_simp
    refine tkB (T := fun uu => Below W.heap.size W uu) (i := 4) (v := Value.int .i64 (M : Int)) rfl (by kernel_rfl) (fun _ _ _ h => by first | exact h | exact h.elim) (fun _ h => h.elim) (fun _ h => h) (Sx.behind (by kernel_rfl) hm0.out) (Or.inl ⟨by rfl, fun uu hu => by go_simp⟩) ?_
    try go_simp
    refine tkB (T := fun uu => Below W.heap.size W uu) (i := 5) (v := Value.pointer (some ⟨g, M * 5, none⟩)) rfl (by kernel_rfl) (fun _ _ _ h => by first | exact h | exact h.elim) (fun _ h => h.elim) (fun _ h => h) (Sx.behind (by kernel_rfl) hm0.out) (Or.inl ⟨by rfl, fun uu hu => by go_simp⟩) ?_
    try go_simp
    refine tkB (T := fun uu => Below W.heap.size W uu) (i := 6) (v := Value.agg #[.int .i64 y.ct.v, .int .i64 y.ct.lo, .int .i64 y.ct.wd, .int .i64 y.ct.bw, .slice y.a y.ct.ws.length y.c]) rfl (by kernel_rfl) (fun _ _ _ h => by first | exact h | exact h.elim) (fun _ h => h.elim) (fun _ h => h) (Sx.behind (by kernel_rfl) hm0.out) (Or.inl ⟨by rfl, fun uu hu => by have e0 := (kcell hu g (M * 5) lg).trans c0; have e1 := (kcell hu g (M * 5 + 1) lg).trans c1; have e2 := (kcell hu g (M * 5 + 2) lg).trans c2; have e3 := (kcell hu g (M * 5 + 3) lg).trans c3; have e4 := (kcell hu g (M * 5 + 4) lg).trans c4; go_simp⟩) ?_
    try go_simp
    refine tkB (T := fun uu => Below W.heap.size W uu) (i := 7) (v := Value.agg #[.int .i64 x.ct.v, .int .i64 x.ct.lo, .int .i64 x.ct.wd, .int .i64 x.ct.bw, .slice x.a x.ct.ws.length x.c]) rfl (by kernel_rfl) (fun _ _ _ h => by first | exact h | exact h.elim) (fun _ h => h.elim) (fun _ h => h) (Sx.behind (by kernel_rfl) hm0.out) (Or.inl ⟨by rfl, fun uu hu => by have e0 := (kcell hu Bx 0 lx).trans d0; have e1 := (kcell hu Bx 1 lx).trans d1; have e2 := (kcell hu Bx 2 lx).trans d2; have e3 := (kcell hu Bx 3 lx).trans d3; have e4 := (kcell hu Bx 4 lx).trans d4; go_simp⟩) ?_
    try go_simp
    refine wpAnyX_ready (rs := [8]) (by kernel_rfl) (by simp) (AllX.cons rfl (fun K hK => ?_) AllX.nil)
    go_simp
    refine Calls.mono (HCO.out m0) ?_
    rintro e m1 ⟨rfl, hbq⟩
    have hm1 : Hid (Below W.heap.size W m1) := hm0.out.trans (hbq.mono hm0.out.size)
    refine hK _ _ (Sx.behind (by kernel_rfl) hm1.out) ?_
    clear hK K hbq
    try go_simp
    refine tkB (T := fun uu => Below W.heap.size W uu) (i := 9) (v := Value.bool true) rfl (by kernel_rfl) (fun _ _ _ h => by first | exact h | exact h.elim) (fun _ h => h.elim) (fun _ h => h) (Sx.behind (by kernel_rfl) hm1.out) (Or.inl ⟨by rfl, fun uu hu => by go_simp⟩) ?_
    try go_simp
    refine tkB (T := fun uu => Below W.heap.size W uu) (i := 10) (v := Value.bool true) rfl (by kernel_rfl) (fun _ _ _ h => by first | exact h | exact h.elim) (fun _ h => h.elim) (fun _ h => h) (Sx.behind (by kernel_rfl) hm1.out) (Or.inl ⟨by rfl, fun uu hu => by go_simp⟩) ?_
    try go_simp
    refine wpAnyX_done (by kernel_rfl) ?_ _
    refine onlyN_in ?_
    have G1 : Hid (Gi w b L pre ow (.slice (some ⟨g, 0, none⟩) N vc) (k' ++ [y]) m1) := HG.out.later hm1.out (by omega)
    have X1 := kide (HX.out.later hm1.out)
    have R1 := kide (HQ2.out.later hm1.out)
    have NZ1 := kide (Nz.below hm1.out)
    have B1 : Hid (Below b W m1) := hm1.out.mono (by omega)
    have WDU : Hid (y.ct.wd + x.ct.wd ≤ 4096) := two_wide (F := k'.map Sg.ct) (pre := pre.map Sg.ct) (fun s hs => (HOK.out s hs).1) HSM.out (by have h9 := HG.out.nf.ok; rw [List.map_append] at h9; exact h9) (by have h9 := HG.out.bits; rw [List.map_append] at h9; exact h9) (by have h9 := HQ1.out; rw [List.map_append] at h9; exact h9)
    have hm1s : W.heap.size ≤ m1.heap.size := hm1.out.size
    have k0 := G1.out.fx.cell 0
    have o0 := G1.out.ox.cell 0
    simp at k0 o0
    obtain ⟨-, -, -, k3, k4⟩ := os5_last G1.out.row HMM.out
    have lf1 := G1.out.fx.lt
    have lg1 := (G1.out.row.lt (b := g) rfl).2
    have HCY := kide (fun u (hu : Below m1.heap.size m1 u) => copyO y.ct.bw y.a y.c y.ct.ws.length y.ct.ws u ((G1.out.rd y (by simp)).later hu) rfl (G1.out.no y (by simp)))
    cases ow with
    | false =>
     gi_wp2
     refine wpIn_region_x (SA := fun uu => uu.cell? ⟨b + 1 + 1, 0, none⟩ = some (Value.slice (some ⟨g, 0, none⟩) N vc) ∧ uu.cell? ⟨g, M * 5 + 3, none⟩ = some (Value.int .i64 y.ct.bw) ∧ uu.cell? ⟨g, M * 5 + 4, none⟩ = some (Value.slice y.a y.ct.ws.length y.c)) (SB := fun _ => True) (k := 10) hmx (by kernel_rfl) ?_
     have hn0 : Hid (Below m1.heap.size m1 m1.drew) := (Below.refl _ _).drew
     have c0_0 := (kcell hn0.out (b + 1 + 1) 0 lf1).trans k0
     have c1_0 := (kcell hn0.out g (M * 5 + 3) lg1).trans k3
     have c2_0 := (kcell hn0.out g (M * 5 + 4) lg1).trans k4
     generalize m1.drew = n0 at *
     have hs0 : Hid ((fun uu => uu.cell? ⟨b + 1 + 1, 0, none⟩ = some (Value.slice (some ⟨g, 0, none⟩) N vc) ∧ uu.cell? ⟨g, M * 5 + 3, none⟩ = some (Value.int .i64 y.ct.bw) ∧ uu.cell? ⟨g, M * 5 + 4, none⟩ = some (Value.slice y.a y.ct.ws.length y.c)) n0) := ⟨c0_0, c1_0, c2_0⟩
     try go_simp
     refine tkX (i := 0) (v := Value.slice (some ⟨g, 0, none⟩) N vc) rfl (by kernel_rfl) (fun _ _ _ h => by first | exact h | exact h.elim) hs0.out (Or.inl ⟨by rfl, fun uu hu => by obtain ⟨e0, e1, e2⟩ := hu; go_simp⟩) ?_
     try go_simp
     refine tkT (i := 1) (v := Value.int .i64 (M : Int)) rfl (by kernel_rfl) (fun _ _ _ h => by first | exact h | exact h.elim) (Sx.before (by kernel_rfl) hs0.out) (Or.inl ⟨by rfl, fun uu hu => by go_simp⟩) ?_
     try go_simp
     refine tkX (i := 2) (v := Value.slice (some ⟨g, 0, none⟩) N vc) rfl (by kernel_rfl) (fun _ _ _ h => by first | exact h | exact h.elim) hs0.out (Or.inl ⟨by rfl, fun uu hu => by obtain ⟨e0, e1, e2⟩ := hu; go_simp⟩) ?_
     try go_simp
     refine tkT (i := 3) (v := Value.int .i64 (M : Int)) rfl (by kernel_rfl) (fun _ _ _ h => by first | exact h | exact h.elim) (Sx.before (by kernel_rfl) hs0.out) (Or.inl ⟨by rfl, fun uu hu => by go_simp⟩) ?_
     try go_simp
     refine tkT (i := 4) (v := Value.pointer (some ⟨g, M * 5, none⟩)) rfl (by kernel_rfl) (fun _ _ _ h => by first | exact h | exact h.elim) (Sx.before (by kernel_rfl) hs0.out) (Or.inl ⟨by rfl, fun uu hu => by go_simp⟩) ?_
     try go_simp
     refine tkT (i := 5) (v := Value.pointer (some ⟨g, M * 5 + 3, none⟩)) rfl (by kernel_rfl) (fun _ _ _ h => by first | exact h | exact h.elim) (Sx.before (by kernel_rfl) hs0.out) (Or.inl ⟨by rfl, fun uu hu => by go_simp⟩) ?_
     try go_simp
     refine tkX (i := 6) (v := Value.agg #[.int .i64 y.ct.bw, .slice y.a y.ct.ws.length y.c]) rfl (by kernel_rfl) (fun _ _ _ h => by first | exact h | exact h.elim) hs0.out (Or.inl ⟨by rfl, fun uu hu => by obtain ⟨e0, e1, e2⟩ := hu; go_simp⟩) ?_
     try go_simp
     refine wpAnyX_ready (rs := [7]) (by kernel_rfl) (by simp) (AllX.cons rfl (fun K hK => ?_) AllX.nil)
     go_simp
     refine Calls.mono (HCY.out n0 hn0.out) ?_
     rintro e n1 ⟨a2, c2, rfl, hO2, hB2⟩
     have hn1 : Hid (Below m1.heap.size m1 n1) := hn0.out.trans (hB2.mono hn0.out.size)
     have HO2 : Hid (OwW n1 m1.heap.size (.slice a2 y.ct.ws.length c2) y.ct.ws) := oww_low hO2 hn0.out.size
     clear hO2 hB2
     have c0_1 := (kcell hn1.out (b + 1 + 1) 0 lf1).trans k0
     have c1_1 := (kcell hn1.out g (M * 5 + 3) lg1).trans k3
     have c2_1 := (kcell hn1.out g (M * 5 + 4) lg1).trans k4
     have hs1 : Hid ((fun uu => uu.cell? ⟨b + 1 + 1, 0, none⟩ = some (Value.slice (some ⟨g, 0, none⟩) N vc) ∧ uu.cell? ⟨g, M * 5 + 3, none⟩ = some (Value.int .i64 y.ct.bw) ∧ uu.cell? ⟨g, M * 5 + 4, none⟩ = some (Value.slice y.a y.ct.ws.length y.c)) n1) := ⟨c0_1, c1_1, c2_1⟩
     refine hK _ _ (Sx.before (by kernel_rfl) hs1.out) ?_
     clear hK K
     try go_simp
     refine tkT (i := 8) (v := Value.pointer (some ⟨g, M * 5, none⟩)) rfl (by kernel_rfl) (fun _ _ _ h => by first | exact h | exact h.elim) (Sx.before (by kernel_rfl) hs1.out) (Or.inl ⟨by rfl, fun uu hu => by go_simp⟩) ?_
     try go_simp
     refine tkT (i := 9) (v := Value.pointer (some ⟨g, M * 5 + 3, none⟩)) rfl (by kernel_rfl) (fun _ _ _ h => by first | exact h | exact h.elim) (Sx.before (by kernel_rfl) hs1.out) (Or.inl ⟨by rfl, fun uu hu => by go_simp⟩) ?_
     try go_simp
     refine wpAnyX_ready (rs := [10]) (by kernel_rfl) (by simp) (AllX.cons rfl (fun K hK => ?_) AllX.nil)
     have GN := kide (G1.out.later hn1.out (by omega))
     have fz := GN.out.row.typed (b := g) rfl
     obtain ⟨cur9, hcur9⟩ := fz
     have fz3 := frozen_of_row n1 g (M * 5 + 3) cur9 _ hcur9
     have fz4 := frozen_of_row n1 g (M * 5 + 4) cur9 _ hcur9
     go_simp
     refine hK _ _ (Sx.behind (by kernel_rfl) trivial) ?_
     clear hK K
     try go_simp
     refine wpAnyX_done (by kernel_rfl) ?_ _
     refine onlyN_in ?_
     obtain ⟨Y, hYc, hYa, hYd⟩ : ∃ Y : Sg, Y.ct = y.ct ∧ Y.a = a2 ∧ Y.c = c2 := ⟨⟨y.ct, a2, c2⟩, rfl, rfl, rfl⟩
     subst hYa hYd
     have hU : (n1.setCell ⟨g, M * 5 + 3, none⟩ (Value.int .i64 y.ct.bw)).setCell ⟨g, M * 5 + 4, none⟩ (Value.slice Y.a y.ct.ws.length Y.c) = put2 n1 g (M * 5) Y := by unfold put2; rw [hYc]
     have hn1s : m1.heap.size ≤ n1.heap.size := hn1.out.size
     have HO3 : Hid (OwW n1 m1.heap.size (.slice Y.a Y.ct.ws.length Y.c) Y.ct.ws) := by show OwW _ _ _ _; rw [hYc]; exact HO2.out
     have YO : Hid (okS Y.ct) := by show okS _; rw [hYc]; exact HYO.out
     have ONE : Hid (oneB Y.ct x.ct = true) := by show _ = _; rw [hYc]; exact HON.out
     rw [← hYc] at WDU
     have HYB : Hid (∀ p, Y.a = some p → m1.heap.size ≤ p.block ∧ p.block < n1.heap.size) := fun p hp9 => World.ownsRow.lt HO3.out p.block (by rw [hp9]; rfl)
     obtain ⟨P1, P2⟩ := os5_put2 GN.out.row HMM.out hYc
     have SW := GN.out.swap P2 P1 hYc (rd_oww HO3.out (by have := YO.out.short; omega) YO.out.2.2.1) (fun e => by (rcases HO3.out.2 with ⟨e9, -⟩ | ⟨g9, cap, cur, e9, -⟩ <;> simp [e] at e9; exact e9.2)) (fun p hp9 => ⟨(HYB.out p hp9).2, by have := (HYB.out p hp9).1; omega⟩)
     have GU := kide SW.1
     have HP2 := kide P2
     have HAU : Hid (OwW (put2 n1 g (M * 5) Y) b (.slice Y.a Y.ct.ws.length Y.c) Y.ct.ws) := oww_low (World.ownsRow.kept HO3.out P2 (.inr fun e => by
      cases hza : Y.a with
      | none => rw [hza] at e; cases e
      | some p => rw [hza] at e; have h8 := (HYB.out p hza).1; have h7 : p.block = g := Option.some.inj e; omega)) (by omega)
     have HDU : Hid (∀ t ∈ k', ∀ p q, Y.a = some p → t.a = some q → p.block ≠ q.block) := fun t ht p q hp9 hq9 => by
      have h8 := (HYB.out p hp9).1
      have h7 := G1.out.pl t (by simp [ht]) q hq9
      omega
     have XU := kide ((fun (h : Bz n1 Bx _ _) (e : Bx ≠ g) => (heap_put2 h e : Bz (put2 n1 g (M * 5) Y) Bx _ _)) (X1.out.later hn1.out) (by have h8 := HBX.out; have h7 := HRW0.out g rfl; omega))
     have RU : Hid (Rd (put2 n1 g (M * 5) Y) x.a x.ct.ws) := rd_gr (R1.out.later hn1.out) P2 (fun p hp9 e => by have h8 := HQ4.out p hp9; have h7 := HRW0.out g rfl; have h6 := (HG.out.row.lt (b := g) rfl).1; have h5 : g = p.block := Option.some.inj e; omega)
     have NEU : Hid (∀ p q, Y.a = some p → x.a = some q → p.block ≠ q.block) := fun p q hp9 hq9 => by have h8 := (HYB.out p hp9).1; have h7 := (HQ4.out q hq9).2; omega
     have NZU := kide ((NZ1.out.trans (Nz.below hn1.out)).trans SW.2.1)
     have BU := kide ((B1.out.trans (hn1.out.mono (by omega))).trans SW.2.2)
     have KOU : Hid (Ko (OG b false (.slice (some ⟨g, 0, none⟩) N vc) (k' ++ [y])) W (put2 n1 g (M * 5) Y)) := (((Ko.refl _ W).below hm1.out).below hn1.out).grown P2 (fun r hr => .inl (.inr (.inr (.inl hr))))
     have HYK : Hid (∀ r, (Value.slice Y.a Y.ct.ws.length Y.c).ownBlock = some r → OG b false (.slice (some ⟨g, 0, none⟩) N vc) (k' ++ [y]) r ∨ W.heap.size ≤ r) := fun r hr => .inr (by have h9 := World.ownsRow.lt HO3.out r hr; omega)
     clear SW P1 P2
     rw [hU]
     have HYC := kide hYc
     clear hU hYc
     generalize put2 n1 g (M * 5) Y = U at *
     gi_wp2
     refine wpIn_region_x (SA := fun uu => uu.cell? ⟨b + 1 + 1, 0, none⟩ = some (Value.slice (some ⟨g, 0, none⟩) N vc) ∧ uu.cell? ⟨g, M * 5, none⟩ = some (Value.int .i64 Y.ct.v) ∧ uu.cell? ⟨g, M * 5 + 1, none⟩ = some (Value.int .i64 Y.ct.lo) ∧ uu.cell? ⟨g, M * 5 + 2, none⟩ = some (Value.int .i64 Y.ct.wd) ∧ uu.cell? ⟨g, M * 5 + 3, none⟩ = some (Value.int .i64 Y.ct.bw) ∧ uu.cell? ⟨g, M * 5 + 4, none⟩ = some (Value.slice Y.a Y.ct.ws.length Y.c) ∧ uu.cell? ⟨Bx, 0, none⟩ = some (Value.int .i64 x.ct.v) ∧ uu.cell? ⟨Bx, 1, none⟩ = some (Value.int .i64 x.ct.lo) ∧ uu.cell? ⟨Bx, 2, none⟩ = some (Value.int .i64 x.ct.wd) ∧ uu.cell? ⟨Bx, 3, none⟩ = some (Value.int .i64 x.ct.bw) ∧ uu.cell? ⟨Bx, 4, none⟩ = some (Value.slice x.a x.ct.ws.length x.c)) (SB := fun _ => True) (k := 9) hmx (by kernel_rfl) ?_
     have hz0 : Hid (Below U.heap.size U U.drew) := (Below.refl _ _).drew
     have GZ := kide (GU.out.later hz0.out (by have := GU.out.r0.lt; omega))
     have HAZ := kide (oww_later HAU.out hz0.out)
     have XZ := kide (XU.out.later hz0.out)
     have RZ := kide (RU.out.later hz0.out)
     generalize U.drew = z0 at *
     have c0_0 := GZ.out.fx.cell 0
     obtain ⟨c1_0, c2_0, c3_0, c4_0, c5_0⟩ := os5_last GZ.out.row HMM.out
     have c6_0 := XZ.out.cell 0
     have c7_0 := XZ.out.cell 1
     have c8_0 := XZ.out.cell 2
     have c9_0 := XZ.out.cell 3
     have c10_0 := XZ.out.cell 4
     simp at c0_0 c6_0 c7_0 c8_0 c9_0 c10_0
     have hs0 : Hid ((fun uu => uu.cell? ⟨b + 1 + 1, 0, none⟩ = some (Value.slice (some ⟨g, 0, none⟩) N vc) ∧ uu.cell? ⟨g, M * 5, none⟩ = some (Value.int .i64 Y.ct.v) ∧ uu.cell? ⟨g, M * 5 + 1, none⟩ = some (Value.int .i64 Y.ct.lo) ∧ uu.cell? ⟨g, M * 5 + 2, none⟩ = some (Value.int .i64 Y.ct.wd) ∧ uu.cell? ⟨g, M * 5 + 3, none⟩ = some (Value.int .i64 Y.ct.bw) ∧ uu.cell? ⟨g, M * 5 + 4, none⟩ = some (Value.slice Y.a Y.ct.ws.length Y.c) ∧ uu.cell? ⟨Bx, 0, none⟩ = some (Value.int .i64 x.ct.v) ∧ uu.cell? ⟨Bx, 1, none⟩ = some (Value.int .i64 x.ct.lo) ∧ uu.cell? ⟨Bx, 2, none⟩ = some (Value.int .i64 x.ct.wd) ∧ uu.cell? ⟨Bx, 3, none⟩ = some (Value.int .i64 x.ct.bw) ∧ uu.cell? ⟨Bx, 4, none⟩ = some (Value.slice x.a x.ct.ws.length x.c)) z0) := ⟨c0_0, c1_0, c2_0, c3_0, c4_0, c5_0, c6_0, c7_0, c8_0, c9_0, c10_0⟩
     try go_simp
     refine tkX (i := 0) (v := Value.slice (some ⟨g, 0, none⟩) N vc) rfl (by kernel_rfl) (fun _ _ _ h => by first | exact h | exact h.elim) hs0.out (Or.inl ⟨by rfl, fun uu hu => by obtain ⟨e0, e1, e2, e3, e4, e5, e6, e7, e8, e9, e10⟩ := hu; go_simp⟩) ?_
     try go_simp
     refine tkT (i := 1) (v := Value.int .i64 (M : Int)) rfl (by kernel_rfl) (fun _ _ _ h => by first | exact h | exact h.elim) (Sx.before (by kernel_rfl) hs0.out) (Or.inl ⟨by rfl, fun uu hu => by go_simp⟩) ?_
     try go_simp
     refine tkX (i := 2) (v := Value.slice (some ⟨g, 0, none⟩) N vc) rfl (by kernel_rfl) (fun _ _ _ h => by first | exact h | exact h.elim) hs0.out (Or.inl ⟨by rfl, fun uu hu => by obtain ⟨e0, e1, e2, e3, e4, e5, e6, e7, e8, e9, e10⟩ := hu; go_simp⟩) ?_
     try go_simp
     refine tkT (i := 3) (v := Value.int .i64 (M : Int)) rfl (by kernel_rfl) (fun _ _ _ h => by first | exact h | exact h.elim) (Sx.before (by kernel_rfl) hs0.out) (Or.inl ⟨by rfl, fun uu hu => by go_simp⟩) ?_
     try go_simp
     refine tkT (i := 4) (v := Value.pointer (some ⟨g, M * 5, none⟩)) rfl (by kernel_rfl) (fun _ _ _ h => by first | exact h | exact h.elim) (Sx.before (by kernel_rfl) hs0.out) (Or.inl ⟨by rfl, fun uu hu => by go_simp⟩) ?_
     try go_simp
     refine tkX (i := 5) (v := Value.agg #[.int .i64 Y.ct.v, .int .i64 Y.ct.lo, .int .i64 Y.ct.wd, .int .i64 Y.ct.bw, .slice Y.a Y.ct.ws.length Y.c]) rfl (by kernel_rfl) (fun _ _ _ h => by first | exact h | exact h.elim) hs0.out (Or.inl ⟨by rfl, fun uu hu => by obtain ⟨e0, e1, e2, e3, e4, e5, e6, e7, e8, e9, e10⟩ := hu; go_simp⟩) ?_
     try go_simp
     refine tkX (i := 6) (v := Value.agg #[.int .i64 x.ct.v, .int .i64 x.ct.lo, .int .i64 x.ct.wd, .int .i64 x.ct.bw, .slice x.a x.ct.ws.length x.c]) rfl (by kernel_rfl) (fun _ _ _ h => by first | exact h | exact h.elim) hs0.out (Or.inl ⟨by rfl, fun uu hu => by obtain ⟨e0, e1, e2, e3, e4, e5, e6, e7, e8, e9, e10⟩ := hu; go_simp⟩) ?_
     try go_simp
     refine wpAnyX_ready (rs := [7]) (by kernel_rfl) (by simp) (AllX.cons rfl (fun K hK => ?_) AllX.nil)
     go_simp
     refine Calls.mono (oneSeg_any Y.ct x.ct b Y.a x.a Y.c x.c z0 YO.out HXO.out ONE.out WDU.out (by have := GZ.out.r0.lt; omega) HAZ.out RZ.out NEU.out) ?_
     rintro e z1 ⟨V, he, hV, hVl, hVg⟩
     obtain ⟨a3, c3, rfl⟩ := oww_form hV
     obtain ⟨Z, hZc, hZa, hZd⟩ : ∃ Z : Sg, Z.ct = oneS Y.ct x.ct ∧ Z.a = a3 ∧ Z.c = c3 := ⟨⟨_, a3, c3⟩, rfl, rfl, rfl⟩
     subst hZa hZd
     rw [← hZc] at he hV hVl
     subst he
     have FX1 := kide (bz_oww GZ.out.fx HAZ.out (by decide) hVg)
     have RW1 := kide (os5_oww GZ.out.row HAZ.out hVg)
     have XX1 := kide (bz_oww XZ.out HAZ.out (by decide) hVg)
     have OX1 := kide (bz_oww GZ.out.ox HAZ.out (by decide) hVg)
     have c0_1 := FX1.out.cell 0
     obtain ⟨c1_1, c2_1, c3_1, c4_1, c5_1⟩ := os5_last RW1.out HMM.out
     have c6_1 := XX1.out.cell 0
     have c7_1 := XX1.out.cell 1
     have c8_1 := XX1.out.cell 2
     have c9_1 := XX1.out.cell 3
     have c10_1 := XX1.out.cell 4
     simp at c0_1 c6_1 c7_1 c8_1 c9_1 c10_1
     have MK := kide (merge_ko (z := Z) (((KOU.out).below hz0.out)) (.inl rfl) (.inr (.inl rfl)) (.inr (.inr (.inl rfl))) HYK.out RW1.out HMM.out hVg hVl)
     have MG := kide (GZ.out.merge HMM.out HAZ.out HDU.out hVg hZc hV hVl HXO.out ONE.out WDU.out HQ1.out)
     clear hV hVl hVg hZc
     have hs1 : Hid ((fun uu => uu.cell? ⟨b + 1 + 1, 0, none⟩ = some (Value.slice (some ⟨g, 0, none⟩) N vc) ∧ uu.cell? ⟨g, M * 5, none⟩ = some (Value.int .i64 Y.ct.v) ∧ uu.cell? ⟨g, M * 5 + 1, none⟩ = some (Value.int .i64 Y.ct.lo) ∧ uu.cell? ⟨g, M * 5 + 2, none⟩ = some (Value.int .i64 Y.ct.wd) ∧ uu.cell? ⟨g, M * 5 + 3, none⟩ = some (Value.int .i64 Y.ct.bw) ∧ uu.cell? ⟨g, M * 5 + 4, none⟩ = some (Value.slice Y.a Y.ct.ws.length Y.c) ∧ uu.cell? ⟨Bx, 0, none⟩ = some (Value.int .i64 x.ct.v) ∧ uu.cell? ⟨Bx, 1, none⟩ = some (Value.int .i64 x.ct.lo) ∧ uu.cell? ⟨Bx, 2, none⟩ = some (Value.int .i64 x.ct.wd) ∧ uu.cell? ⟨Bx, 3, none⟩ = some (Value.int .i64 x.ct.bw) ∧ uu.cell? ⟨Bx, 4, none⟩ = some (Value.slice x.a x.ct.ws.length x.c)) z1) := ⟨c0_1, c1_1, c2_1, c3_1, c4_1, c5_1, c6_1, c7_1, c8_1, c9_1, c10_1⟩
     refine hK _ _ (Sx.before (by kernel_rfl) hs1.out) ?_
     clear hK K
     try go_simp
     refine tkT (i := 8) (v := Value.pointer (some ⟨g, M * 5, none⟩)) rfl (by kernel_rfl) (fun _ _ _ h => by first | exact h | exact h.elim) (Sx.before (by kernel_rfl) hs1.out) (Or.inl ⟨by rfl, fun uu hu => by go_simp⟩) ?_
     try go_simp
     refine wpAnyX_ready (rs := [9]) (by kernel_rfl) (by simp) (AllX.cons rfl (fun K hK => ?_) AllX.nil)
     obtain ⟨cur9, hcur9⟩ := RW1.out.typed (b := g) rfl
     have fz0 := frozen_of_row z1 g (M * 5) cur9 _ hcur9
     have fz1 := frozen_of_row z1 g (M * 5 + 1) cur9 _ hcur9
     have fz2 := frozen_of_row z1 g (M * 5 + 2) cur9 _ hcur9
     have fz3 := frozen_of_row z1 g (M * 5 + 3) cur9 _ hcur9
     have fz4 := frozen_of_row z1 g (M * 5 + 4) cur9 _ hcur9
     go_simp
     refine hK _ _ (Sx.behind (by kernel_rfl) trivial) ?_
     clear hK K
     try go_simp
     refine wpAnyX_ready (rs := [10]) (by kernel_rfl) (by simp) (AllX.cons rfl (fun K hK => ?_) AllX.nil)
     have OX2 := kide (bz_os5 OX1.out RW1.out (by decide) (os5_put5 Z RW1.out HMM.out).2)
     unfold put5 at OX2 MG MK
     generalize (((((z1.setCell ⟨g, M * 5, none⟩ (Value.int .i64 Z.ct.v)).setCell ⟨g, M * 5 + 1, none⟩ (Value.int .i64 Z.ct.lo)).setCell ⟨g, M * 5 + 2, none⟩ (Value.int .i64 Z.ct.wd)).setCell ⟨g, M * 5 + 3, none⟩ (Value.int .i64 Z.ct.bw)).setCell ⟨g, M * 5 + 4, none⟩ (Value.slice Z.a Z.ct.ws.length Z.c)) = z2 at *
     have ob0 := OX2.out.cell 0
     have ob1 := OX2.out.froz 0
     simp at ob0
     go_simp
     refine hK _ _ (Sx.behind (by kernel_rfl) trivial) ?_
     clear hK K
     try go_simp
     refine wpAnyX_done (by kernel_rfl) ?_ _
     refine onlyN_in ?_
     try gi_wp2
     have MG9 := MG.out
     exact ⟨((NZU.out.trans (Nz.below hz0.out)).trans MG9.2.1).keeps _, (BU.out.trans (hz0.out.mono (by have := GU.out.r0.lt; omega))).trans MG9.2.2, MK.out.1, _, (by first | exact .inr ⟨_, _, MG9.1, rfl⟩ | exact ⟨true, _, _, MG9.1, rfl⟩), MK.out.2⟩
    | true =>
     obtain ⟨l', y', e, hA, hd⟩ := G1.out.own rfl
     obtain ⟨e1, e2⟩ := List.append_inj' e rfl
     cases e1
     cases e2
     have GU := kide G1.out
     have HAU := kide hA
     have HDU := kide hd
     have XU := kide X1.out
     have RU := kide R1.out
     have NZU := kide NZ1.out
     have BU := kide B1.out
     have YO := kide HYO.out
     have ONE := kide HON.out
     have NEU : Hid (∀ p q, y.a = some p → x.a = some q → p.block ≠ q.block) := fun p q hp9 hq9 => by have h8 := (oww_typed HAU.out (b := p.block) (by rw [hp9]; rfl)).2; have h7 := (HQ4.out q hq9).1; have h6 := PL0.out y (by simp) p hp9; omega
     have KOU : Hid (Ko (OG b true (.slice (some ⟨g, 0, none⟩) N vc) (k' ++ [y])) W m1) := (Ko.refl _ W).below hm1.out
     have HYK : Hid (∀ r, (Value.slice y.a y.ct.ws.length y.c).ownBlock = some r → OG b true (.slice (some ⟨g, 0, none⟩) N vc) (k' ++ [y]) r ∨ W.heap.size ≤ r) := fun r hr => .inl (.inr (.inr (.inr ⟨rfl, k', y, by (cases hya : y.a with | none => (rw [hya] at hr; cases hr) | some q => (rw [hya] at hr; exact ⟨q, rfl, rfl, Option.some.inj hr⟩))⟩)))
     clear hA hd e
     gi_wp2
     refine wpIn_region_x (SA := fun uu => uu.cell? ⟨b + 1 + 1, 0, none⟩ = some (Value.slice (some ⟨g, 0, none⟩) N vc) ∧ uu.cell? ⟨g, M * 5, none⟩ = some (Value.int .i64 y.ct.v) ∧ uu.cell? ⟨g, M * 5 + 1, none⟩ = some (Value.int .i64 y.ct.lo) ∧ uu.cell? ⟨g, M * 5 + 2, none⟩ = some (Value.int .i64 y.ct.wd) ∧ uu.cell? ⟨g, M * 5 + 3, none⟩ = some (Value.int .i64 y.ct.bw) ∧ uu.cell? ⟨g, M * 5 + 4, none⟩ = some (Value.slice y.a y.ct.ws.length y.c) ∧ uu.cell? ⟨Bx, 0, none⟩ = some (Value.int .i64 x.ct.v) ∧ uu.cell? ⟨Bx, 1, none⟩ = some (Value.int .i64 x.ct.lo) ∧ uu.cell? ⟨Bx, 2, none⟩ = some (Value.int .i64 x.ct.wd) ∧ uu.cell? ⟨Bx, 3, none⟩ = some (Value.int .i64 x.ct.bw) ∧ uu.cell? ⟨Bx, 4, none⟩ = some (Value.slice x.a x.ct.ws.length x.c)) (SB := fun _ => True) (k := 9) hmx (by kernel_rfl) ?_
     have hz0 : Hid (Below m1.heap.size m1 m1.drew) := (Below.refl _ _).drew
     have GZ := kide (GU.out.later hz0.out (by have := GU.out.r0.lt; omega))
     have HAZ := kide (oww_later HAU.out hz0.out)
     have XZ := kide (XU.out.later hz0.out)
     have RZ := kide (RU.out.later hz0.out)
     generalize m1.drew = z0 at *
     have c0_0 := GZ.out.fx.cell 0
     obtain ⟨c1_0, c2_0, c3_0, c4_0, c5_0⟩ := os5_last GZ.out.row HMM.out
     have c6_0 := XZ.out.cell 0
     have c7_0 := XZ.out.cell 1
     have c8_0 := XZ.out.cell 2
     have c9_0 := XZ.out.cell 3
     have c10_0 := XZ.out.cell 4
     simp at c0_0 c6_0 c7_0 c8_0 c9_0 c10_0
     have hs0 : Hid ((fun uu => uu.cell? ⟨b + 1 + 1, 0, none⟩ = some (Value.slice (some ⟨g, 0, none⟩) N vc) ∧ uu.cell? ⟨g, M * 5, none⟩ = some (Value.int .i64 y.ct.v) ∧ uu.cell? ⟨g, M * 5 + 1, none⟩ = some (Value.int .i64 y.ct.lo) ∧ uu.cell? ⟨g, M * 5 + 2, none⟩ = some (Value.int .i64 y.ct.wd) ∧ uu.cell? ⟨g, M * 5 + 3, none⟩ = some (Value.int .i64 y.ct.bw) ∧ uu.cell? ⟨g, M * 5 + 4, none⟩ = some (Value.slice y.a y.ct.ws.length y.c) ∧ uu.cell? ⟨Bx, 0, none⟩ = some (Value.int .i64 x.ct.v) ∧ uu.cell? ⟨Bx, 1, none⟩ = some (Value.int .i64 x.ct.lo) ∧ uu.cell? ⟨Bx, 2, none⟩ = some (Value.int .i64 x.ct.wd) ∧ uu.cell? ⟨Bx, 3, none⟩ = some (Value.int .i64 x.ct.bw) ∧ uu.cell? ⟨Bx, 4, none⟩ = some (Value.slice x.a x.ct.ws.length x.c)) z0) := ⟨c0_0, c1_0, c2_0, c3_0, c4_0, c5_0, c6_0, c7_0, c8_0, c9_0, c10_0⟩
     try go_simp
     refine tkX (i := 0) (v := Value.slice (some ⟨g, 0, none⟩) N vc) rfl (by kernel_rfl) (fun _ _ _ h => by first | exact h | exact h.elim) hs0.out (Or.inl ⟨by rfl, fun uu hu => by obtain ⟨e0, e1, e2, e3, e4, e5, e6, e7, e8, e9, e10⟩ := hu; go_simp⟩) ?_
     try go_simp
     refine tkT (i := 1) (v := Value.int .i64 (M : Int)) rfl (by kernel_rfl) (fun _ _ _ h => by first | exact h | exact h.elim) (Sx.before (by kernel_rfl) hs0.out) (Or.inl ⟨by rfl, fun uu hu => by go_simp⟩) ?_
     try go_simp
     refine tkX (i := 2) (v := Value.slice (some ⟨g, 0, none⟩) N vc) rfl (by kernel_rfl) (fun _ _ _ h => by first | exact h | exact h.elim) hs0.out (Or.inl ⟨by rfl, fun uu hu => by obtain ⟨e0, e1, e2, e3, e4, e5, e6, e7, e8, e9, e10⟩ := hu; go_simp⟩) ?_
     try go_simp
     refine tkT (i := 3) (v := Value.int .i64 (M : Int)) rfl (by kernel_rfl) (fun _ _ _ h => by first | exact h | exact h.elim) (Sx.before (by kernel_rfl) hs0.out) (Or.inl ⟨by rfl, fun uu hu => by go_simp⟩) ?_
     try go_simp
     refine tkT (i := 4) (v := Value.pointer (some ⟨g, M * 5, none⟩)) rfl (by kernel_rfl) (fun _ _ _ h => by first | exact h | exact h.elim) (Sx.before (by kernel_rfl) hs0.out) (Or.inl ⟨by rfl, fun uu hu => by go_simp⟩) ?_
     try go_simp
     refine tkX (i := 5) (v := Value.agg #[.int .i64 y.ct.v, .int .i64 y.ct.lo, .int .i64 y.ct.wd, .int .i64 y.ct.bw, .slice y.a y.ct.ws.length y.c]) rfl (by kernel_rfl) (fun _ _ _ h => by first | exact h | exact h.elim) hs0.out (Or.inl ⟨by rfl, fun uu hu => by obtain ⟨e0, e1, e2, e3, e4, e5, e6, e7, e8, e9, e10⟩ := hu; go_simp⟩) ?_
     try go_simp
     refine tkX (i := 6) (v := Value.agg #[.int .i64 x.ct.v, .int .i64 x.ct.lo, .int .i64 x.ct.wd, .int .i64 x.ct.bw, .slice x.a x.ct.ws.length x.c]) rfl (by kernel_rfl) (fun _ _ _ h => by first | exact h | exact h.elim) hs0.out (Or.inl ⟨by rfl, fun uu hu => by obtain ⟨e0, e1, e2, e3, e4, e5, e6, e7, e8, e9, e10⟩ := hu; go_simp⟩) ?_
     try go_simp
     refine wpAnyX_ready (rs := [7]) (by kernel_rfl) (by simp) (AllX.cons rfl (fun K hK => ?_) AllX.nil)
     go_simp
     refine Calls.mono (oneSeg_any y.ct x.ct b y.a x.a y.c x.c z0 YO.out HXO.out ONE.out WDU.out (by have := GZ.out.r0.lt; omega) HAZ.out RZ.out NEU.out) ?_
     rintro e z1 ⟨V, he, hV, hVl, hVg⟩
     obtain ⟨a3, c3, rfl⟩ := oww_form hV
     obtain ⟨Z, hZc, hZa, hZd⟩ : ∃ Z : Sg, Z.ct = oneS y.ct x.ct ∧ Z.a = a3 ∧ Z.c = c3 := ⟨⟨_, a3, c3⟩, rfl, rfl, rfl⟩
     subst hZa hZd
     rw [← hZc] at he hV hVl
     subst he
     have FX1 := kide (bz_oww GZ.out.fx HAZ.out (by decide) hVg)
     have RW1 := kide (os5_oww GZ.out.row HAZ.out hVg)
     have XX1 := kide (bz_oww XZ.out HAZ.out (by decide) hVg)
     have OX1 := kide (bz_oww GZ.out.ox HAZ.out (by decide) hVg)
     have c0_1 := FX1.out.cell 0
     obtain ⟨c1_1, c2_1, c3_1, c4_1, c5_1⟩ := os5_last RW1.out HMM.out
     have c6_1 := XX1.out.cell 0
     have c7_1 := XX1.out.cell 1
     have c8_1 := XX1.out.cell 2
     have c9_1 := XX1.out.cell 3
     have c10_1 := XX1.out.cell 4
     simp at c0_1 c6_1 c7_1 c8_1 c9_1 c10_1
     have MK := kide (merge_ko (z := Z) (((KOU.out).below hz0.out)) (.inl rfl) (.inr (.inl rfl)) (.inr (.inr (.inl rfl))) HYK.out RW1.out HMM.out hVg hVl)
     have MG := kide (GZ.out.merge HMM.out HAZ.out HDU.out hVg hZc hV hVl HXO.out ONE.out WDU.out HQ1.out)
     clear hV hVl hVg hZc
     have hs1 : Hid ((fun uu => uu.cell? ⟨b + 1 + 1, 0, none⟩ = some (Value.slice (some ⟨g, 0, none⟩) N vc) ∧ uu.cell? ⟨g, M * 5, none⟩ = some (Value.int .i64 y.ct.v) ∧ uu.cell? ⟨g, M * 5 + 1, none⟩ = some (Value.int .i64 y.ct.lo) ∧ uu.cell? ⟨g, M * 5 + 2, none⟩ = some (Value.int .i64 y.ct.wd) ∧ uu.cell? ⟨g, M * 5 + 3, none⟩ = some (Value.int .i64 y.ct.bw) ∧ uu.cell? ⟨g, M * 5 + 4, none⟩ = some (Value.slice y.a y.ct.ws.length y.c) ∧ uu.cell? ⟨Bx, 0, none⟩ = some (Value.int .i64 x.ct.v) ∧ uu.cell? ⟨Bx, 1, none⟩ = some (Value.int .i64 x.ct.lo) ∧ uu.cell? ⟨Bx, 2, none⟩ = some (Value.int .i64 x.ct.wd) ∧ uu.cell? ⟨Bx, 3, none⟩ = some (Value.int .i64 x.ct.bw) ∧ uu.cell? ⟨Bx, 4, none⟩ = some (Value.slice x.a x.ct.ws.length x.c)) z1) := ⟨c0_1, c1_1, c2_1, c3_1, c4_1, c5_1, c6_1, c7_1, c8_1, c9_1, c10_1⟩
     refine hK _ _ (Sx.before (by kernel_rfl) hs1.out) ?_
     clear hK K
     try go_simp
     refine tkT (i := 8) (v := Value.pointer (some ⟨g, M * 5, none⟩)) rfl (by kernel_rfl) (fun _ _ _ h => by first | exact h | exact h.elim) (Sx.before (by kernel_rfl) hs1.out) (Or.inl ⟨by rfl, fun uu hu => by go_simp⟩) ?_
     try go_simp
     refine wpAnyX_ready (rs := [9]) (by kernel_rfl) (by simp) (AllX.cons rfl (fun K hK => ?_) AllX.nil)
     obtain ⟨cur9, hcur9⟩ := RW1.out.typed (b := g) rfl
     have fz0 := frozen_of_row z1 g (M * 5) cur9 _ hcur9
     have fz1 := frozen_of_row z1 g (M * 5 + 1) cur9 _ hcur9
     have fz2 := frozen_of_row z1 g (M * 5 + 2) cur9 _ hcur9
     have fz3 := frozen_of_row z1 g (M * 5 + 3) cur9 _ hcur9
     have fz4 := frozen_of_row z1 g (M * 5 + 4) cur9 _ hcur9
     go_simp
     refine hK _ _ (Sx.behind (by kernel_rfl) trivial) ?_
     clear hK K
     try go_simp
     refine wpAnyX_ready (rs := [10]) (by kernel_rfl) (by simp) (AllX.cons rfl (fun K hK => ?_) AllX.nil)
     have OX2 := kide (bz_os5 OX1.out RW1.out (by decide) (os5_put5 Z RW1.out HMM.out).2)
     unfold put5 at OX2 MG MK
     generalize (((((z1.setCell ⟨g, M * 5, none⟩ (Value.int .i64 Z.ct.v)).setCell ⟨g, M * 5 + 1, none⟩ (Value.int .i64 Z.ct.lo)).setCell ⟨g, M * 5 + 2, none⟩ (Value.int .i64 Z.ct.wd)).setCell ⟨g, M * 5 + 3, none⟩ (Value.int .i64 Z.ct.bw)).setCell ⟨g, M * 5 + 4, none⟩ (Value.slice Z.a Z.ct.ws.length Z.c)) = z2 at *
     have ob0 := OX2.out.cell 0
     have ob1 := OX2.out.froz 0
     simp at ob0
     go_simp
     refine hK _ _ (Sx.behind (by kernel_rfl) trivial) ?_
     clear hK K
     try go_simp
     refine wpAnyX_done (by kernel_rfl) ?_ _
     refine onlyN_in ?_
     try gi_wp2
     have MG9 := MG.out
     exact ⟨((NZU.out.trans (Nz.below hz0.out)).trans MG9.2.1).keeps _, (BU.out.trans (hz0.out.mono (by have := GU.out.r0.lt; omega))).trans MG9.2.2, MK.out.1, _, (by first | exact .inr ⟨_, _, MG9.1, rfl⟩ | exact ⟨true, _, _, MG9.1, rfl⟩), MK.out.2⟩
 case done =>
  rintro D xs O W hD hS ⟨ow, v, l, h, -⟩ hdf
  simp only [] at h
  obtain ⟨va, vc, rfl⟩ := h.row.form
  obtain ⟨N, hN⟩ : ∃ N, l.length = N := ⟨_, rfl⟩
  rw [hN] at h
  have f0 := h.fx.cell 0
  have r0 := h.r0.cell 0
  have r1 := h.r1.cell 0
  have s0 := h.r0.froz 0
  have s1 := h.r1.froz 0
  simp at f0 r0 r1
  have Y1 : Hid (Bz ((W.setCell ⟨b, 0, none⟩ (.slice va N vc)).setCell ⟨b + 1, 0, none⟩ (.bool true)) b #[.slice va N vc] 25) := (h.r0.set 0 _).other (by omega) 0 _
  have Y2 : Hid (Bz ((W.setCell ⟨b, 0, none⟩ (.slice va N vc)).setCell ⟨b + 1, 0, none⟩ (.bool true)) (b + 1) #[.bool true] 4) := (h.r1.other (by omega) 0 _).set 0 _
  have KD : Hid (((W.setCell ⟨b, 0, none⟩ (.slice va N vc)).setCell ⟨b + 1, 0, none⟩ (.bool true)).heap[D]? = some (.deferred (some []))) := by
   show _ = _
   rw [heap_setCell_other _ _ _ _ (by simp only []; omega), heap_setCell_other _ _ _ _ (by simp only []; omega)]
   exact hdf
  have CD : Hid (Cz ((W.setCell ⟨b, 0, none⟩ (.slice va N vc)).setCell ⟨b + 1, 0, none⟩ (.bool true)) (((W.setCell ⟨b, 0, none⟩ (.slice va N vc)).setCell ⟨b + 1, 0, none⟩ (.bool true)).putObj D (.deferred none))) := Cz.put _ KD.out rfl
  have BF : Hid (Below b w (((W.setCell ⟨b, 0, none⟩ (.slice va N vc)).setCell ⟨b + 1, 0, none⟩ (.bool true)).putObj D (.deferred none))) := by
   refine ((h.bel.setCell (p := ⟨b, 0, none⟩) (Nat.le_refl _) (.slice va N vc)).setCell (p := ⟨b + 1, 0, none⟩) (Nat.le_succ _) (.bool true)).trans ?_
   exact ⟨rfl, rfl, rfl, by simp, fun k hk => World.putObj_heap_other (fun e => by omega)⟩
  have OF : Hid (OS5 (((W.setCell ⟨b, 0, none⟩ (.slice va N vc)).setCell ⟨b + 1, 0, none⟩ (.bool true)).putObj D (.deferred none)) b (.slice va N vc) l) := by
   refine cz_own ?_ CD.out
   refine OS5.move h.row fun k hk => ?_
   obtain ⟨cur, hc⟩ := h.row.typed hk
   have n1 : k ≠ b := fun e => by
    have h9 := h.r0
    unfold Bz at h9
    rw [e, h9] at hc
    cases hc
   have n2 : k ≠ b + 1 := fun e => by
    have h9 := h.r1
    unfold Bz at h9
    rw [e, h9] at hc
    cases hc
   rw [heap_setCell_other _ _ _ _ (by simpa using n2), heap_setCell_other _ _ _ _ (by simpa using n1)]
  have RF : Hid (∀ x ∈ l, Rd (((W.setCell ⟨b, 0, none⟩ (.slice va N vc)).setCell ⟨b + 1, 0, none⟩ (.bool true)).putObj D (.deferred none)) x.a x.ct.ws) := fun x hx => by
   refine cz_rd ?_ CD.out
   exact rd_set (rd_set (h.rd x hx) h.r0 (no_u64 (fun n e => by cases e)) 0 _) (h.r1.other (by omega) 0 _) (no_u64 (fun n e => by cases e)) 0 _
  have HF : Hid (l.map Sg.ct = formB (formP L)) := by
   show _ = _
   rw [← hS, ← h.bits]
   exact (formB_nf h.nf).symm
  have HNO := kide h.no
  have HRA := kide h.ra
  have HPZ : Hid (∀ x ∈ l, ∀ p, x.a = some p → p.block < (((W.setCell ⟨b, 0, none⟩ (.slice va N vc)).setCell ⟨b + 1, 0, none⟩ (.bool true)).putObj D (.deferred none)).heap.size) := fun x hx p hp => by have := h.pl x hx p hp; simpa using this
  have HLE : Hid (l.length ≤ 2000) := h.len
  clear h hdf
  gi_wp2
  refine ⟨by simp, .inl ⟨_, _, rfl, run_takeDeferred KD.out, ?_⟩⟩
  have y1 := (cz_bz Y1.out CD.out).cell 0
  have y2 := (cz_bz Y2.out CD.out).cell 0
  simp only [List.getElem?_toArray, List.getElem?_cons_zero] at y1 y2
  exact ⟨.tuple #[.slice va N vc, .bool true], by simp [results, Try.results21, go_sem, y1, y2], by rw [HB.out]; exact BF.out, .inl ⟨_, l, rfl, HF.out, HLE.out, by rw [HB.out]; exact OF.out, RF.out, HNO.out, HRA.out, HPZ.out⟩⟩
 case stop =>
  rintro D pre W hD hS ⟨h1, h2, h3, h4⟩ hdf
  have CD : Hid (Cz W (W.putObj D (.deferred none))) := Cz.put _ hdf rfl
  have Y1 := kide h3
  have Y2 := kide h4
  have KD := kide hdf
  have BF : Hid (Below b w (W.putObj D (.deferred none))) := h1.trans ⟨rfl, rfl, rfl, by simp, fun k hk => World.putObj_heap_other (fun e => by omega)⟩
  have HLT : Hid (2000 < (formB (formP L)).length) := by
   obtain ⟨r, hr⟩ := hS
   have h9 := formB_mono (formP r) _ (formP (pre.map Sg.ct)) (Nat.le_refl _)
   rw [← formP_app, hr] at h9
   exact Nat.lt_of_lt_of_le h2 h9
  clear h1 h2 h3 h4 hdf hS
  gi_wp2
  refine ⟨by simp, .inl ⟨_, _, rfl, run_takeDeferred KD.out, ?_⟩⟩
  have y1 := (cz_bz Y1.out CD.out).cell 0
  have y2 := (cz_bz Y2.out CD.out).cell 0
  simp only [List.getElem?_toArray, List.getElem?_cons_zero] at y1 y2
  exact ⟨.tuple #[.slice none 0 0, .bool false], by simp [results, Try.results21, go_sem, y1, y2], by rw [HB.out]; exact BF.out, .inr ⟨rfl, HLT.out⟩⟩

end Go.Proofs.Ytffcklobignlfaa
