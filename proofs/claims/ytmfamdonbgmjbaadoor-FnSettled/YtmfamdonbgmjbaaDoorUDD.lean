/- DrawUnit. -/
import Derived.Test.YtmfamdonbgmjbaaDoorUDC
namespace Go.Proofs.YtmfamdonbgmjbaaDoor
set_option linter.unusedVariables false
set_option linter.unusedSimpArgs false
open Go.RowKit
def RetDU (w : World) (e : Ending) (w' : World) : Prop := ∃ (S : Int) (ca : Option Addr) (nc cc : Nat) (xs : List Iw) (v : Value) (set : List Int), e = .returned (.tuple #[.agg #[.int .i64 S, .slice ca nc cc], v]) ∧ in64 S ∧ xs.length = nc ∧ nc ≤ 30 ∧ GotC w' w.heap.size ca xs ∧ OI w' w.heap.size v set ∧ set.length ≤ 40 ∧ (∀ x ∈ set, in64 x) ∧ Below w.heap.size w w'
/-- Numbers under way. -/
structure Ku (w2 w : World) (β : Nat) (a : Option Addr) (c : Nat) (bs : List Nat) (cb : Nat) (S : Int) (cv v : Value) (set : List Int) : Prop where
  box : Bz w cb #[.int .i64 S, cv] 29
  oi : OI w w2.heap.size v set
  ok : ∀ x ∈ set, in64 x
  rr : Rr w β a c bs
  dw : Dw β w2 w
theorem Ku.far {w2 w w' : World} {β : Nat} {a : Option Addr} {c : Nat} {bs : List Nat} {cb : Nat} {S : Int} {cv v : Value} {set : List Int} (h : Ku w2 w β a c bs cb S cv v set) (hd : Dw β w w') (hr : Rr w' β a c bs) (hβ : β < w2.heap.size) (h1 : w2.heap.size ≤ cb) : Ku w2 w' β a c bs cb S cv v set :=
  ⟨h.box.farD hd (by omega), h.oi.far hd hβ, h.ok, hr, h.dw.trans hd⟩
theorem Ku.later {w2 w w' : World} {β : Nat} {a : Option Addr} {c : Nat} {bs : List Nat} {cb : Nat} {S : Int} {cv v : Value} {set : List Int} (h : Ku w2 w β a c bs cb S cv v set) (hb : Below w.heap.size w w') : Ku w2 w' β a c bs cb S cv v set :=
  ⟨h.box.later hb, h.oi.later hb, h.ok, h.rr.later hb, h.dw.trans (Dw.of hb)⟩
theorem Ku.grow {w2 w w' : World} {β : Nat} {a : Option Addr} {c : Nat} {bs : List Nat} {cb : Nat} {S x : Int} {cv v v' : Value} {set : List Int} (h : Ku w2 w β a c bs cb S cv v set) (hr0 : Rr w2 β a c bs) (ho : OI w' w2.heap.size v' (set ++ [x])) (hx : in64 x) (hg : w.grownBy w' v.ownBlock) : Ku w2 w' β a c bs cb S cv v' (set ++ [x]) := by
  refine ⟨(hg.block cb h.box.lt (fun e => ?_)).trans h.box, ho, fun y hy => ?_, hr0.far h.rr hg (fun k e => (h.oi.lt e).1), h.dw.own hg (fun k e => (h.oi.lt e).1)⟩
  · obtain ⟨c2, e2⟩ := rowty h.oi e.symm
    have := h.box.symm.trans e2
    simp at this
  · rcases List.mem_append.1 hy with hy | hy
    · exact h.ok y hy
    · rw [List.mem_singleton.1 hy]; exact hx
theorem OI.low2 {w : World} {B B' : Nat} {v : Value} {l : List Int} (h : OI w B v l) (hB : B' ≤ B) : OI w B' v l := by
  obtain ⟨h1, h2⟩ := h
  refine ⟨h1, ?_⟩
  rcases h2 with h2 | ⟨g, cap, cur, rfl, hg, hh, r⟩
  · exact .inl h2
  · exact .inr ⟨g, cap, cur, rfl, by omega, hh, r⟩
set_option maxHeartbeats 4000000 in
set_option maxRecDepth 100000 in
theorem drawUnit_any (a : Option Addr) (c : Nat) (bs : List Nat) (w : World) (hr : RdB w a bs) :
    Calls Tryd.prog 23 #[.slice a bs.length c] w (RetDU w) := by
  have hb0 : Below w.heap.size w (w.alloc (Obj.cells #[Value.int .i64 0, Value.slice none 0 0] 29)) := (Below.refl _ _).alloc (Nat.le_refl _) _
  have X0 := kide (Bz.new w #[Value.int .i64 0, Value.slice none 0 0] 29)
  have R0 := kide (hr.later hb0)
  have B0 := kide hb0
  clear hr hb0
  go_enter Tryd.func23, Tryd.ntmps23
  go_wp2_with fail
  generalize w.alloc (Obj.cells #[Value.int .i64 0, Value.slice none 0 0] 29) = w0 at *
  refine Calls.mono (open_any a c bs _ R0.out) ?_
  rintro e w1 ⟨β, rfl, hβ0, hr1, hb1⟩
  have hβ := hr1.lt
  have X1 := kide (X0.out.later hb1)
  have B1 := kide (B0.out.trans (hb1.mono B0.out.size))
  have hrb : w.heap.size < w0.heap.size := X0.out.lt
  have R1 := kide hr1
  clear hb1 hr1 X0 R0 B0
  go_wp2_with fail
  refine Calls.mono (cnf_any β a c bs _ R1.out) ?_
  rintro e w2 ⟨S, ca, nc, cc, xs, rfl, hS, hxl, hn30, hgc, hr2, hd2⟩
  have X2 : Hid (Bz w2 w.heap.size #[Value.int .i64 0, Value.slice none 0 0] 29) := X1.out.farD hd2 (by omega)
  have B2 : Hid (Below w.heap.size w w2) := B1.out.trans (hd2.below (by omega) (by omega))
  have hs12 : w1.heap.size ≤ w2.heap.size := hd2.size
  have HGC := kide hgc
  have HXL := kide hxl
  have HN30 := kide hn30
  have R2 := kide hr2
  have HS := kide hS
  obtain ⟨hS1, hS2⟩ := hS
  have hβ2 : β < w2.heap.size := by omega
  obtain ⟨cb, hcb⟩ : ∃ cb, w2.heap.size = cb := ⟨_, rfl⟩
  have hb3 : Below w2.heap.size w2 (w2.alloc (Obj.cells #[Value.int .i64 S, Value.slice ca nc cc] 29)) := (Below.refl _ _).alloc (Nat.le_refl _) _
  have XB := Bz.new w2 #[Value.int .i64 S, Value.slice ca nc cc] 29
  have hb4 : Below (w2.alloc (Obj.cells #[Value.int .i64 S, Value.slice ca nc cc] 29)).heap.size (w2.alloc (Obj.cells #[Value.int .i64 S, Value.slice ca nc cc] 29)) ((w2.alloc (Obj.cells #[Value.int .i64 S, Value.slice ca nc cc] 29)).alloc (Obj.cells #[] 2)) := (Below.refl _ _).alloc (Nat.le_refl _) _
  have OE := OI.empty (w2.alloc (Obj.cells #[Value.int .i64 S, Value.slice ca nc cc] 29)) w2.heap.size hb3.size
  have K4 : Hid (Ku w2 ((w2.alloc (Obj.cells #[Value.int .i64 S, Value.slice ca nc cc] 29)).alloc (Obj.cells #[] 2)) β a c bs w2.heap.size S (.slice ca nc cc) (.slice (some ⟨(w2.alloc (Obj.cells #[Value.int .i64 S, Value.slice ca nc cc] 29)).heap.size, 0, none⟩) 0 0) []) := ⟨XB.later hb4, OE, fun x h => (by cases h), (R2.out.later hb3).later hb4, (Dw.of hb3).trans (Dw.of hb4)⟩
  rw [hcb] at K4
  have HCB := kide hcb
  clear hgc hr2 hd2 hxl hn30 X1 B1 R1 hb3 XB hb4 OE
  go_wp2_with fail
  rw [World.size_alloc] at K4
  rw [hcb] at K4
  generalize (w2.alloc (Obj.cells #[Value.int .i64 S, Value.slice ca nc cc] 29)).alloc (Obj.cells #[] 2) = w4 at *
  clear hcb
  go_loopw [7, 6] (fun i v wr => ∃ (n : Nat) (set : List Int), 1 ≤ n ∧ n ≤ 20 ∧ set.length ≤ n ∧ i = .int .i64 (n : Int) ∧ Ku w2 wr β a c bs cb S (.slice ca nc cc) v set) (fun i _ _ => 20 - (intOf i).toNat)
  case atStart => exact ⟨1, [], by omega, by omega, by simp, rfl, K4.out⟩
  case round =>
    obtain ⟨n, set, hn1, hn2, hsl, rfl, hku⟩ := hrel
    obtain ⟨va, vc, rfl⟩ := hku.oi.form
    have K5 := kide hku
    obtain ⟨vn, hvn⟩ : ∃ vn, set.length = vn := ⟨_, rfl⟩
    rw [hvn] at K5 hsl ⊢
    have HVN := kide hvn
    have HSL := kide hsl
    have hcw : w2.heap.size ≤ cb := by rw [HCB.out]; exact Nat.le_refl _
    clear hku hvn K4 hsl
    have d0 : wr.cell? ⟨cb, 0, none⟩ = some (.int .i64 S) := K5.out.box.cell 0
    by_cases hgo : (n : Int) ≤ S ∧ n < 20
    · obtain ⟨g1, g2⟩ := hgo
      have g3 : (n : Int) < 20 := by omega
      go_wp2_with fail
      refine Calls.mono (once_any 4 (by omega) (by omega) β a c bs _ K5.out.rr) ?_
      rintro e w7 ⟨xx, rfl, hr7, hd7⟩
      have K7 := kide (K5.out.far hd7 hr7 hβ2 hcw)
      clear hr7 hd7 K5 d0
      cases xx with
      | false =>
        go_wp2_with fail
        go_roundw
        case rel => exact ⟨n + 1, set, by omega, by omega, by have := HSL.out; have := HVN.out; omega, by go_num, K7.out⟩
        case measure => simp only [intOf]; omega
      | true =>
        go_wp2_with fail
        refine Calls.mono (below_any 2 (by omega) β a c bs _ K7.out.rr) ?_
        rintro e w8 ⟨t, rfl, ht, hr8, hd8⟩
        have K8 := kide (K7.out.far hd8 hr8 hβ2 hcw)
        have ht2 : t < 2 := by omega
        clear hr8 hd8 K7 ht
        obtain ⟨yv, hyv, hyi⟩ : ∃ yv : Int, (n : Int) * (1 - 2 * (t : Int)) = yv ∧ in64 yv := by
          refine ⟨_, rfl, ?_⟩
          obtain rfl | rfl : t = 0 ∨ t = 1 := by omega
          · simp; unfold in64; omega
          · simp; unfold in64; omega
        have hw1 : IntKind.i64.wrap (2 * (t : Int)) = 2 * (t : Int) := by rw [IntKind.wrap_i64]; omega
        have hw2 : IntKind.i64.wrap (1 - 2 * (t : Int)) = 1 - 2 * (t : Int) := by rw [IntKind.wrap_i64]; omega
        have hw3 : IntKind.i64.wrap yv = yv := by rw [IntKind.wrap_i64]; unfold in64 at hyi; omega
        have hb9 : Below w8.heap.size w8 (w8.alloc (Obj.cells #[Value.int .i64 yv] 2)) := (Below.refl _ _).alloc (Nat.le_refl _) _
        have K9 := kide (K8.out.later hb9)
        have HYI := kide hyi
        have S8 : Hid (w2.heap.size ≤ (w8.alloc (Obj.cells #[Value.int .i64 yv] 2)).heap.size) := K9.out.dw.size
        clear hb9 hyi
        go_wp2_with (refine wpList_appI rfl _ _ rfl w2.heap.size (.slice va vn vc) set yv rfl K9.out.oi w8.heap.size 1 rfl (by simp) (by have := HVN.out; have := HSL.out; omega) S8.out ?_)
        intro g9 c9 w9 ho9 hg9 hat9
        have K10 := kide (K9.out.grow R2.out ho9 HYI.out hg9)
        clear ho9 hg9 hat9 K9 K8
        go_wp2_with fail
        go_roundw
        case rel => exact ⟨n + 1, set ++ [yv], by omega, by omega, by have := HSL.out; have := HVN.out; rw [List.length_append, List.length_singleton]; omega, by go_num, K10.out⟩
        case measure => simp only [intOf]; omega
    · obtain ⟨P, hP⟩ : ∃ P, decide ((n : Int) ≤ S) = P := ⟨_, rfl⟩
      have HON := kide (fun W (h : Rr W β a c bs) => once_any 20 (by omega) (by omega) β a c bs W h)
      have X2c : Hid (w.heap.size ≠ β) := by show _ ≠ _; omega
      have FIN : Hid (∀ (W : World) (v : Value) (set : List Int), Ku w2 W β a c bs cb S (.slice ca nc cc) v set → set.length ≤ 40 → RetDU w (.returned (.tuple #[.agg #[.int .i64 S, .slice ca nc cc], v])) ((W.setCell ⟨w.heap.size, 0, none⟩ (.int .i64 S)).setCell ⟨w.heap.size, 1, none⟩ (.slice ca nc cc))) := fun W v set hk hl => by
        have d1 : Dw β w2 W := hk.dw
        have z1 : Bz W w.heap.size #[Value.int .i64 0, Value.slice none 0 0] 29 := X2.out.farD d1 (by omega)
        have g0 := HGC.out.1.far d1 hβ
        have oth : ∀ k, k ≠ w.heap.size → ((W.setCell ⟨w.heap.size, 0, none⟩ (.int .i64 S)).setCell ⟨w.heap.size, 1, none⟩ (.slice ca nc cc)).heap[k]? = W.heap[k]? := fun k hk => by
          rw [heap_setCell_other _ _ _ _ (by show k ≠ _; exact hk), heap_setCell_other _ _ _ _ (by show k ≠ _; exact hk)]
        have hlo : w.heap.size < w1.heap.size := by omega
        have g1 : GotII ((W.setCell ⟨w.heap.size, 0, none⟩ (.int .i64 S)).setCell ⟨w.heap.size, 1, none⟩ (.slice ca nc cc)) w1.heap.size ca xs := g0.far (β := w.heap.size) ⟨rfl, rfl, rfl, by simp, fun k _ hk => oth k (fun e => hk (by rw [e]))⟩ hlo
        refine ⟨S, ca, nc, cc, xs, v, set, rfl, HS.out, HXL.out, HN30.out, ⟨⟨g1.1, fun p hp => by have := g1.2.1 p hp; omega, fun x hx p hp => by have := g1.2.2 x hx p hp; omega⟩, HGC.out.2⟩, ?_, hl, hk.ok, ?_⟩
        · exact (hk.oi.move fun b hb => oth b (by have := (hk.oi.lt hb).1; omega)).low2 (by omega)
        · have b1 : Below w.heap.size w W := B2.out.trans (d1.below (by omega) (by omega))
          exact (b1.setCell (p := ⟨w.heap.size, 0, none⟩) (Nat.le_refl _) _).setCell (p := ⟨w.heap.size, 1, none⟩) (Nat.le_refl _) _
      have XRB : Hid (∀ W, Dw β w2 W → Bz W w.heap.size #[Value.int .i64 0, Value.slice none 0 0] 29) := fun W hd => X2.out.farD hd (by omega)
      cases P with
      | false =>
        have g1 : ¬ (n : Int) ≤ S := of_decide_eq_false hP
        clear hP hgo
        go_wp2_with fail
        refine Calls.mono (HON.out _ K5.out.rr) ?_
        rintro e w7 ⟨xx, rfl, hr7, hd7⟩
        have K7 := kide (K5.out.far hd7 hr7 hβ2 hcw)
        clear hr7 hd7 K5 d0
        cases xx with
        | false =>
          have e0 : w7.cell? ⟨cb, 0, none⟩ = some (.int .i64 S) := K7.out.box.cell 0
          have e1 : w7.cell? ⟨cb, 1, none⟩ = some (.slice ca nc cc) := K7.out.box.cell 1
          have r0 : w7.cell? ⟨w.heap.size, 0, none⟩ = some (.int .i64 0) := (XRB.out _ K7.out.dw).cell 0
          have r1 : w7.cell? ⟨w.heap.size, 1, none⟩ = some (.slice none 0 0) := (XRB.out _ K7.out.dw).cell 1
          have q0 := (XRB.out _ K7.out.dw).froz 0
          have q1 := (XRB.out _ K7.out.dw).froz 1
          have FN := kide (FIN.out w7 _ _ K7.out (by have := HSL.out; have := HVN.out; omega))
          go_wp2_with fail
          exact bodyPost_ret (v := .tuple #[.agg #[.int .i64 S, .slice ca nc cc], .slice va vn vc]) (by simp [results, Tryd.results23, go_sem, r0, r1]) rfl FN.out
        | true =>
          have e0 : w7.cell? ⟨cb, 0, none⟩ = some (.int .i64 S) := K7.out.box.cell 0
          have HOF := kide (offS_any S HS.out β a c bs w7 K7.out.rr)
          obtain ⟨L, hL⟩ : ∃ L, wrap64 (-S) = L := ⟨_, rfl⟩
          have hL2 : IntKind.i64.wrap (-S) = L := by rw [← hL, IntKind.wrap_i64]; unfold wrap64; omega
          rw [hL] at HOF
          clear hL
          go_wp2_with fail
          refine Calls.mono HOF.out ?_
          rintro e w8 ⟨yv, rfl, hyi, hr8, hd8⟩
          have K8 := kide (K7.out.far hd8 hr8 hβ2 hcw)
          have hb9 : Below w8.heap.size w8 (w8.alloc (Obj.cells #[Value.int .i64 yv] 2)) := (Below.refl _ _).alloc (Nat.le_refl _) _
          have K9 := kide (K8.out.later hb9)
          have HYI := kide hyi
          have S8 : Hid (w2.heap.size ≤ (w8.alloc (Obj.cells #[Value.int .i64 yv] 2)).heap.size) := K9.out.dw.size
          clear hb9 hyi hr8 hd8
          go_wp2_with (refine wpList_appI rfl _ _ rfl w2.heap.size (.slice va vn vc) set yv rfl K9.out.oi w8.heap.size 1 rfl (by simp) (by have := HVN.out; have := HSL.out; omega) S8.out ?_)
          intro g9 c9 w9 ho9 hg9 hat9
          have K10 := kide (K9.out.grow R2.out ho9 HYI.out hg9)
          rw [HVN.out] at K10
          try rw [HVN.out]
          clear ho9 hg9 hat9 K9 K8 e0
          have e0 : w9.cell? ⟨cb, 0, none⟩ = some (.int .i64 S) := K10.out.box.cell 0
          have e1 : w9.cell? ⟨cb, 1, none⟩ = some (.slice ca nc cc) := K10.out.box.cell 1
          have r0 : w9.cell? ⟨w.heap.size, 0, none⟩ = some (.int .i64 0) := (XRB.out _ K10.out.dw).cell 0
          have r1 : w9.cell? ⟨w.heap.size, 1, none⟩ = some (.slice none 0 0) := (XRB.out _ K10.out.dw).cell 1
          have q0 := (XRB.out _ K10.out.dw).froz 0
          have q1 := (XRB.out _ K10.out.dw).froz 1
          have FN := kide (FIN.out w9 _ _ K10.out (by have := HSL.out; have := HVN.out; rw [List.length_append, List.length_singleton]; omega))
          go_wp2_with fail
          exact bodyPost_ret (v := .tuple #[.agg #[.int .i64 S, .slice ca nc cc], .slice (some ⟨g9, 0, none⟩) (vn + 1) c9]) (by simp [results, Tryd.results23, go_sem, r0, r1]) rfl FN.out
      | true =>
        have g1 : (n : Int) ≤ S := of_decide_eq_true hP
        have g3 : ¬ (n : Int) < 20 := by have : ¬ n < 20 := fun h => hgo ⟨g1, h⟩; omega
        clear hP hgo
        go_wp2_with fail
        refine Calls.mono (HON.out _ K5.out.rr) ?_
        rintro e w7 ⟨xx, rfl, hr7, hd7⟩
        have K7 := kide (K5.out.far hd7 hr7 hβ2 hcw)
        clear hr7 hd7 K5 d0
        cases xx with
        | false =>
          have e0 : w7.cell? ⟨cb, 0, none⟩ = some (.int .i64 S) := K7.out.box.cell 0
          have e1 : w7.cell? ⟨cb, 1, none⟩ = some (.slice ca nc cc) := K7.out.box.cell 1
          have r0 : w7.cell? ⟨w.heap.size, 0, none⟩ = some (.int .i64 0) := (XRB.out _ K7.out.dw).cell 0
          have r1 : w7.cell? ⟨w.heap.size, 1, none⟩ = some (.slice none 0 0) := (XRB.out _ K7.out.dw).cell 1
          have q0 := (XRB.out _ K7.out.dw).froz 0
          have q1 := (XRB.out _ K7.out.dw).froz 1
          have FN := kide (FIN.out w7 _ _ K7.out (by have := HSL.out; have := HVN.out; omega))
          go_wp2_with fail
          exact bodyPost_ret (v := .tuple #[.agg #[.int .i64 S, .slice ca nc cc], .slice va vn vc]) (by simp [results, Tryd.results23, go_sem, r0, r1]) rfl FN.out
        | true =>
          have e0 : w7.cell? ⟨cb, 0, none⟩ = some (.int .i64 S) := K7.out.box.cell 0
          have HOF := kide (offS_any S HS.out β a c bs w7 K7.out.rr)
          obtain ⟨L, hL⟩ : ∃ L, wrap64 (-S) = L := ⟨_, rfl⟩
          have hL2 : IntKind.i64.wrap (-S) = L := by rw [← hL, IntKind.wrap_i64]; unfold wrap64; omega
          rw [hL] at HOF
          clear hL
          go_wp2_with fail
          refine Calls.mono HOF.out ?_
          rintro e w8 ⟨yv, rfl, hyi, hr8, hd8⟩
          have K8 := kide (K7.out.far hd8 hr8 hβ2 hcw)
          have hb9 : Below w8.heap.size w8 (w8.alloc (Obj.cells #[Value.int .i64 yv] 2)) := (Below.refl _ _).alloc (Nat.le_refl _) _
          have K9 := kide (K8.out.later hb9)
          have HYI := kide hyi
          have S8 : Hid (w2.heap.size ≤ (w8.alloc (Obj.cells #[Value.int .i64 yv] 2)).heap.size) := K9.out.dw.size
          clear hb9 hyi hr8 hd8
          go_wp2_with (refine wpList_appI rfl _ _ rfl w2.heap.size (.slice va vn vc) set yv rfl K9.out.oi w8.heap.size 1 rfl (by simp) (by have := HVN.out; have := HSL.out; omega) S8.out ?_)
          intro g9 c9 w9 ho9 hg9 hat9
          have K10 := kide (K9.out.grow R2.out ho9 HYI.out hg9)
          rw [HVN.out] at K10
          try rw [HVN.out]
          clear ho9 hg9 hat9 K9 K8 e0
          have e0 : w9.cell? ⟨cb, 0, none⟩ = some (.int .i64 S) := K10.out.box.cell 0
          have e1 : w9.cell? ⟨cb, 1, none⟩ = some (.slice ca nc cc) := K10.out.box.cell 1
          have r0 : w9.cell? ⟨w.heap.size, 0, none⟩ = some (.int .i64 0) := (XRB.out _ K10.out.dw).cell 0
          have r1 : w9.cell? ⟨w.heap.size, 1, none⟩ = some (.slice none 0 0) := (XRB.out _ K10.out.dw).cell 1
          have q0 := (XRB.out _ K10.out.dw).froz 0
          have q1 := (XRB.out _ K10.out.dw).froz 1
          have FN := kide (FIN.out w9 _ _ K10.out (by have := HSL.out; have := HVN.out; rw [List.length_append, List.length_singleton]; omega))
          go_wp2_with fail
          exact bodyPost_ret (v := .tuple #[.agg #[.int .i64 S, .slice ca nc cc], .slice (some ⟨g9, 0, none⟩) (vn + 1) c9]) (by simp [results, Tryd.results23, go_sem, r0, r1]) rfl FN.out
end Go.Proofs.YtmfamdonbgmjbaaDoor
