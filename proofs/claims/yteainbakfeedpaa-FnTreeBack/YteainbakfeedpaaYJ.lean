/- A drawn tree. -/
import Derived.Test.YteainbakfeedpaaYF
namespace Go.Proofs.Yteainbakfeedpaa
set_option linter.unusedVariables false
set_option linter.unusedSimpArgs false
open Go.RowKit

set_option maxHeartbeats 16000000 in
set_option maxRecDepth 100000 in
theorem tree_any (β : Nat) (a : Option Addr) (c : Nat) (bs : List Nat) (w : World) (hr : Rr w β a c bs) :
    Calls Try.prog 51 #[.pointer (some ⟨β, 0, none⟩)] w (RetTr β a c bs w) := by
  have hr0 := hr
  obtain ⟨p, hp, hk, hrb, hn⟩ := hr
  obtain ⟨k0, k1⟩ := hk.cells
  have hbl := hrb.1
  have hβ := hr0.lt
  clear hk hrb hn
  obtain ⟨n, hmin, hn5⟩ : ∃ n : Nat, min (5 : Int) (1 + (bs.length : Int) / 8) = (n : Int) ∧ n ≤ 5 := ⟨(min (5 : Int) (1 + (bs.length : Int) / 8)).toNat, by omega, by omega⟩
  have HMN := hidE hmin
  clear hmin
  have hbA : Below w.heap.size w (w.alloc (Obj.cells #[Value.slice none 0 0] 26)) := Ba (Below.refl _ _) _
  have hbR : (w.alloc (Obj.cells #[Value.slice none 0 0] 26)).heap[w.heap.size]? = some (.cells #[.slice none 0 0] 26 (0, 0)) := heap_alloc_new _ _
  have hrA := hr0.later hbA
  go_enter Try.func51, Try.ntmps51
  go_wp2_with fail
  rw [HMN.out]
  generalize w.alloc (Obj.cells #[Value.slice none 0 0] 26) = wA at *
  refine (below_any n (by omega) β a c bs _ hrA).mono ?_
  rintro e w1 ⟨x, rfl, hx, hr1, hd1⟩
  have hx4 : x ≤ 4 := by omega
  have hgr := grow_any β a c bs (1 + x) w1 (by omega) hr1
  have hxc : ((1 + x : Nat) : Int) = 1 + (x : Int) := by omega
  rw [hxc] at hgr
  have HGR := hidE hgr
  have hgz := (gsz_le (1 + x) (by omega)).2
  clear hgr hxc hrA
  go_wp2_with fail
  refine Calls.mono HGR.out ?_
  rintro e w2 ⟨s, rfl, hs, hr2, hd2⟩
  have HRD := hidE (specRead_any s w2 (by omega))
  clear hr1
  have hβ2 := hr2.lt
  have hsz1 := World.grownBy.size hd1
  have hsz2 := World.grownBy.size hd2
  have hRl : w.heap.size < wA.heap.size := lt_of_block hbR
  have D2 : Dw β w w2 := (Dw.of hbA).trans (hd1.trans hd2)
  have hbR2 : w2.heap[w.heap.size]? = some (.cells #[.slice none 0 0] 26 (0, 0)) := by
    rw [World.grownBy.block hd2 _ (by omega) (by simp; omega), World.grownBy.block hd1 _ (by omega) (by simp; omega)]
    exact hbR
  clear hd1 hd2 hbR hbA
  go_wp2_with fail
  refine Calls.mono HRD.out ?_
  rintro e w3 ⟨v3, ns, rfl, hon, hct, hb3⟩
  obtain ⟨ao, cap, hv3, -, -⟩ := hon.shape
  subst hv3
  have hnl := hon.len
  have hLo := hr2.lo (Nat.le_refl w2.heap.size)
  have hr3 := hr2.low hLo hb3
  have hw2 : w.heap.size < w2.heap.size := by omega
  have D3 := D2.low hb3 (Nat.le_of_lt hw2)
  have hbR3 := (hb3.block _ hw2).trans hbR2
  have hB2 : w2.heap.size ≤ w3.heap.size := hb3.size
  clear hct hr2 D2 hbR2 HRD HGR
  have hA : Below w3.heap.size w3 (w3.alloc (Obj.cells #[Value.slice ao ns.length cap] 26)) := Ba (Below.refl _ _) _
  have hbT : (w3.alloc (Obj.cells #[Value.slice ao ns.length cap] 26)).heap[w3.heap.size]? = some (.cells #[.slice ao ns.length cap] 26 (0, 0)) := heap_alloc_new _ _
  have hon4 := hon.later hA
  have hr4 := hr3.later hA
  have D4 := D3.trans (Dw.of hA)
  have hbR4 := (hA.block _ (show w.heap.size < w3.heap.size by omega)).trans hbR3
  have s34 := hA.size
  have t1 := cell_of_one hbT
  have t2 := cell_of_one hbR4
  have t3 := free_of_one hbR4
  have hτ : w.heap.size < w3.heap.size := by omega
  clear hon hA
  by_cases h0 : ns.length = 0
  · have i0 : ((ns.length : Int) == 0) = true := beq_iff_eq.2 (by omega)
    have HR3 := hidE hr3
    have HD3 := hidE D3
    have u2 := cell_of_one hbR3
    clear hon4 h0 hr3 D3 hr4 D4
    go_wp2_with fail
    have hb : Below w.heap.size w3 (((w3.setCell ⟨w.heap.size, 0, none⟩ (Value.slice (some ⟨w3.heap.size + 1, 0, none⟩) 1 1)).alloc (Obj.cells #[Value.slice ao ns.length cap] 26)).alloc (Obj.cells #[Value.string { data := #[97] }, Value.slice none 0 0] 59)) :=
      (((Below.refl w.heap.size w3).setCell (p := ⟨w.heap.size, 0, none⟩) (Nat.le_refl _) _).alloc (by simp; omega) _).alloc (by simp; omega) _
    have hN : (((w3.setCell ⟨w.heap.size, 0, none⟩ (Value.slice (some ⟨w3.heap.size + 1, 0, none⟩) 1 1)).alloc (Obj.cells #[Value.slice ao ns.length cap] 26)).alloc (Obj.cells #[Value.string { data := #[97] }, Value.slice none 0 0] 59)).heap[w3.heap.size + 1]? = some (Obj.cells #[Value.string { data := #[97] }, Value.slice none 0 0] 59 (0, 0)) := heap_at _ _ _ (by simp)
    refine bodyPost_ret (v := .agg #[.slice (some ⟨w3.heap.size + 1, 0, none⟩) 1 1]) (by simp [results, Try.results51, go_sem, u2, hτ, Nat.lt_succ_of_lt]) rfl ⟨some ⟨w3.heap.size + 1, 0, none⟩, 1, [⟨⟨#[97]⟩, none, 0, []⟩], rfl, ⟨by simp, .inr ⟨_, _, rfl, fun i n hi => ?_⟩⟩, HR3.out.low (hr0.lo (Nat.le_refl _)) hb, HD3.out.low hb (Nat.le_refl _)⟩
    cases i with
    | succ i => simp at hi
    | zero =>
      simp at hi
      subst hi
      exact ⟨by rw [cell_of_row _ _ _ _ _ _ hN]; rfl, by rw [cell_of_row _ _ _ _ _ _ hN]; rfl, ⟨by simp, by simp, .inl rfl⟩, by show 1 ≤ 1048576; omega⟩
  · have i0 : ((ns.length : Int) == 0) = false := beq_eq_false_iff_ne.2 (by omega)
    clear hr3 D3 hbR3
    go_wp2_with fail
    generalize (w3.alloc (Obj.cells #[Value.slice ao ns.length cap] 26)) = w4 at *
    generalize w3.heap.size = τ at *
    refine (below_any ns.length (by omega) β a c bs _ hr4).mono ?_
    rintro e w5 ⟨u, rfl, hu, hr5, hd5⟩
    have hu' : u < ns.length := by omega
    have s45 := World.grownBy.size hd5
    have hon5 := hon4.dw hd5 hβ2
    have D5 := D4.trans hd5
    have hbT5 : w5.heap[τ]? = _ := (World.grownBy.block hd5 τ (lt_of_block hbT) (by simp; omega)).trans hbT
    have hbR5 : w5.heap[w.heap.size]? = _ := (World.grownBy.block hd5 _ (by omega) (by simp; omega)).trans hbR4
    clear hon4 D4 hbT hbR4 hd5 hr4 t1 t2 t3
    go_wp2_with fail
    refine (below_any 30 (by omega) β a c bs _ hr5).mono ?_
    rintro e w6 ⟨y, rfl, hy, hr6, hd6⟩
    have s56 := World.grownBy.size hd6
    have hon6 := hon5.dw hd6 hβ2
    have D6 := D5.trans hd6
    have hbT6 : w6.heap[τ]? = _ := (World.grownBy.block hd6 τ (lt_of_block hbT5) (by simp; omega)).trans hbT5
    have hbR6 : w6.heap[w.heap.size]? = _ := (World.grownBy.block hd6 _ (by omega) (by simp; omega)).trans hbR5
    clear hon5 D5 hbT5 hbR5 hd6 hr5
    have t1 := cell_of_one hbT6
    have t2 := cell_of_one hbR6
    have t3 := free_of_one hbR6
    have t4 := free_of_one hbT6
    have hui : (u : Int) < (ns.length : Int) := by omega
    have hτ6 := lt_of_block hbT6
    by_cases y0 : y = 0
    · subst y0
      obtain ⟨gN, cap', hv, -, -⟩ := hon6.row.form (by omega)
      cases hv
      have hTL : Tl w β a c bs w2.heap.size τ gN ns.length cap w6 ns := ⟨hr6, D6, hon6.o3, hbT6, hbR6⟩
      obtain ⟨n0, hn0⟩ : ∃ n0, ns[u]? = some n0 := ⟨_, List.getElem?_eq_getElem hu'⟩
      have hfit := hon6.fits
      have hn0f := hon6.fit u n0 hn0
      obtain ⟨q0, -, qf0, -⟩ := hTL.kidc hn0
      obtain ⟨g1, g2, g3, g4⟩ := hTL.nodes
      have HTL := hidE hTL
      have HN0 := hidE hn0
      have HF := hidE hfit
      have HNF := hidE hn0f
      have HBL := hidE (fun W (h : Rr W β a c bs) => below_any 5 (by omega) β a c bs W h)
      have HR6 := hidE hr6
      have hβ6 := hr6.lt
      have hz6 : w2.heap.size ≤ w6.heap.size := by omega
      clear hTL hon6 D6 hn0 hfit hn0f hr6
      go_wp2_with fail
      go_region_law
        (first
          | (go_simp; go_at_call 34; refine Calls.mono (HBL.out _ (Rr.later HR6.out ((Below.refl _ _).drew))) ?_; rintro e wc ⟨z5, rfl, hz5, hrc, hdc⟩; replace hdc := Dw.undrew hdc; have htc := Tl.draw HTL.out hrc hdc hβ hw2 hB2; have HTC := hidE htc; obtain ⟨p0, -, pf0, -⟩ := htc.kidc HN0.out; have pt0 := cell_of_one htc.hT; have pz := World.grownBy.size hdc; have pg := htc.nodes.2.1; have pt := lt_of_block htc.hT; have hz5' : z5 < 5 := (by omega); have hg5 : (#[Value.string { data := #[] }, Value.string { data := #[40] }, Value.string { data := #[97, 32, 98] }, Value.string { data := #[127] }, Value.string { data := #[120] }] : Array Value)[z5]? = some (.string (l5d.getD z5 .empty)) := lit_get5 z5 hz5'; have hq5 := mem_getD l5d 3 z5 l5d_le hz5'; have hzi : (z5 : Int) < 5 := (by omega); clear hz5' hz5 htc hdc hrc; generalize l5d.getD z5 .empty = q5 at *)
          | (go_simp; go_at_call 34; refine Calls.mono (HBL.out _ (Rr.later HR6.out (((Below.refl _ _).drew).alloc (Nat.le_refl _) _))) ?_; rintro e wc ⟨z5, rfl, hz5, hrc, hdc⟩; have hd5 := Dw.undrew' hdc; have hz5' : z5 < 5 := (by omega); have hg5 := lit_str l5d (hd5.row hβ6) z5 hz5'; have htc := Tl.draw (Tl.later HTL.out (Ba (Below.refl _ _) _)) hrc hd5 hβ hw2 hB2; have HTC := hidE htc; obtain ⟨p0, -, pf0, -⟩ := htc.kidc HN0.out; have pt0 := cell_of_one htc.hT; have pz := World.grownBy.size hd5; have pg := htc.nodes.2.1; have pt := lt_of_block htc.hT; have hq5 := mem_getD l5d 3 z5 l5d_le hz5'; have hzi : (z5 : Int) < 5 := (by omega); clear hz5' hz5 htc hdc hd5 hrc; generalize l5d.getD z5 .empty = q5 at *))
      all_goals
        have hT7 := Tl.txt (q := q5) HTC.out HN0.out hLo hw2
        clear HTC pt0 p0 pf0 pt pg pz
        first
          | (have hT8 := hT7.later (Ba (Below.refl _ _) (Obj.cells #[Value.string { data := #[] }, Value.string { data := #[40] }, Value.string { data := #[97, 32, 98] }, Value.string { data := #[127] }, Value.string { data := #[120] }] 9)); clear hT7; generalize (wc.setCell ⟨gN, u * 2, none⟩ (Value.string q5)).alloc (Obj.cells #[Value.string { data := #[] }, Value.string { data := #[40] }, Value.string { data := #[97, 32, 98] }, Value.string { data := #[127] }, Value.string { data := #[120] }] 9) = w8 at hT8 ⊢; have v1 := cell_of_one hT8.hT; have v2 := cell_of_one hT8.hR; have v3 := free_of_one hT8.hR; have HT8 := hidE hT8; clear hT8; go_wp2_with fail; exact bodyPost_ret (v := .agg #[.slice (some ⟨gN, 0, none⟩) ns.length cap]) (by simp [results, Try.results51, go_sem, v2]) rfl (Tl.fin HT8.out hr0 hw2 (by simp; omega) (fit_set HF.out ⟨by show q5.size ≤ 1048576; omega, by have := HNF.out.len; show n0.ks.length ≤ 1048576; omega, HNF.out.fit⟩)))
          | (have hT8 := hT7; clear hT7; generalize wc.setCell ⟨gN, u * 2, none⟩ (Value.string q5) = w8 at hT8 ⊢; have v1 := cell_of_one hT8.hT; have v2 := cell_of_one hT8.hR; have v3 := free_of_one hT8.hR; have HT8 := hidE hT8; clear hT8; go_wp2_with fail; exact bodyPost_ret (v := .agg #[.slice (some ⟨gN, 0, none⟩) ns.length cap]) (by simp [results, Try.results51, go_sem, v2]) rfl (Tl.fin HT8.out hr0 hw2 (by simp; omega) (fit_set HF.out ⟨by show q5.size ≤ 1048576; omega, by have := HNF.out.len; show n0.ks.length ≤ 1048576; omega, HNF.out.fit⟩)))
    by_cases y1 : y = 1
    · subst y1
      obtain ⟨gN, cap', hv, -, -⟩ := hon6.row.form (by omega)
      cases hv
      have hTL : Tl w β a c bs w2.heap.size τ gN ns.length cap w6 ns := ⟨hr6, D6, hon6.o3, hbT6, hbR6⟩
      obtain ⟨n0, hn0⟩ : ∃ n0, ns[u]? = some n0 := ⟨_, List.getElem?_eq_getElem hu'⟩
      have hfit := hon6.fits
      have hn0f := hon6.fit u n0 hn0
      have hn0l := hn0f.len
      obtain ⟨-, q1, -, qf1⟩ := hTL.kidc hn0
      obtain ⟨g1, g2, g3, g4⟩ := hTL.nodes
      have HTL := hidE hTL
      have HN0 := hidE hn0
      have HF := hidE hfit
      have HNF := hidE hn0f
      have HOFF := hidE (fun W (h : Rr W β a c bs) => off_any 0 ns.length (by omega) (by omega) β a c bs W h)
      have HR6 := hidE hr6
      obtain ⟨tx, ak, ck, ks⟩ := n0
      have hz6 : w2.heap.size ≤ w6.heap.size := by omega
      have q1' : w6.cell? ⟨gN, u * 2 + 1, none⟩ = some (.slice ak ks.length ck) := q1
      have hn0l' : ks.length ≤ 2000 := hn0l
      clear hTL hon6 D6 hn0 hfit hn0f q1 hn0l hr6
      go_wp2_with fail
      go_region_law
        (first
          | (go_simp; go_at_call 72; refine Calls.mono (HOFF.out _ (Rr.later HR6.out ((Below.refl _ _).drew))) ?_; rintro e wc ⟨x5, rfl, hx5a, hx5b, hrc, hdc⟩; replace hdc := Dw.undrew hdc; have htc := Tl.draw HTL.out hrc hdc hβ hw2 hB2; have HTC := hidE htc; obtain ⟨-, p1, -, pf1⟩ := htc.kidc HN0.out; have p1' : wc.cell? ⟨gN, u * 2 + 1, none⟩ = some (.slice ak ks.length ck) := p1; have p0 := cell_of_one htc.hT; have pz := World.grownBy.size hdc; have pg := htc.nodes.2.1; have pt := lt_of_block htc.hT; clear p1 htc hdc hrc)
          | (refine step_appI _ rfl _ _ rfl w2.heap.size _ ks x5 rfl (show RowI _ _ (Value.slice ak ks.length ck) ks from RowI.later (HTC.out.own.kid u _ HN0.out) ((Below.refl _ _).alloc (Nat.le_refl _) _)) wc.heap.size 1 rfl (cellNewI _ _ _ _ rfl) (by omega) (by simp; omega) _ rfl ?_; intro g7 k7 w7 ho7 hg7 hat7; have HTA := hidE (Tl.later HTC.out ((Below.refl _ _).alloc (Nat.le_refl _) (Obj.cells #[Value.int IntKind.i64 x5] 2))); obtain ⟨d0, d1, d2⟩ := HTA.out.grow HN0.out hg7; have d1' : w7.cell? ⟨gN, u * 2 + 1, none⟩ = some (.slice ak ks.length ck) := d1; clear d1))
      all_goals
        have hat8 : (Nd.v ⟨tx, ak, ck, ks⟩).ownBlock = some g7 ∨ (wc.alloc (Obj.cells #[Value.int IntKind.i64 x5] 2)).heap.size ≤ g7 := by
          rcases hat7 with h' | h'
          · exact .inl h'
          · right; omega
        have hT8 := Tl.kid HTA.out HN0.out hLo hw2 (by simp; omega) hg7 ho7 hat8
        clear hg7 ho7 hat7 hat8 d0 d1' d2
        generalize w7.setCell ⟨gN, u * 2 + 1, none⟩ (.slice (some ⟨g7, 0, none⟩) (ks.length + 1) k7) = w8 at *
        have v1 := cell_of_one hT8.hT
        have v2 := cell_of_one hT8.hR
        have v3 := free_of_one hT8.hR
        have HT8 := hidE hT8
        clear hT8
        go_wp2_with fail
        exact bodyPost_ret (v := .agg #[.slice (some ⟨gN, 0, none⟩) ns.length cap]) (by simp [results, Try.results51, go_sem, v2]) rfl (Tl.fin HT8.out hr0 hw2 (by simp; omega) (fit_set HF.out ⟨HNF.out.txt, by simp; omega, fun k hk => by
          rcases List.mem_append.1 hk with hk | hk
          · exact HNF.out.fit k hk
          · rw [List.mem_singleton.1 hk]; exact ⟨hx5a, hx5b⟩⟩))
    by_cases y2 : y = 2
    · subst y2
      rcases hon6.row.2 with ⟨-, h'⟩ | ⟨g, cap', cur, hv, -, -, hc1, hc2, -, -⟩
      · omega
      cases hv
      have c1 : (u : Int) ≤ (cap : Int) := by omega
      have c2 : u ≤ cap := by omega
      have hne : τ ≠ w.heap.size := by omega
      have HC2 := hidE hc2
      clear hc2
      go_wp2_with fail
      exact bodyPost_ret (v := .agg #[.slice (some ⟨g, 0, none⟩) u cap]) (by simp [results, Try.results51, go_sem, t2]) rfl (RetTr.fin3 hr0 hr6 D6 hLo hw2 hB2 hbT6 hon6.o3 (by omega) hon6.fits (by omega))
    by_cases y3 : y = 3
    · subst y3
      have hne : τ ≠ w.heap.size := by omega
      have hA6 : Below w6.heap.size w6 (w6.alloc (Obj.cells #[Value.string { data := #[113] }, Value.slice none 0 0] 59)) := Ba (Below.refl _ _) _
      have hbA := hA6.mono (show w2.heap.size ≤ w6.heap.size by omega)
      have HON := hidE (hon6.later hA6)
      have hrA := hr6.low hLo hbA
      have DA := D6.low hbA (Nat.le_of_lt hw2)
      have hbTA := (hA6.block τ hτ6).trans hbT6
      have hbRA := (hA6.block w.heap.size (by omega)).trans hbR6
      clear hon6
      go_wp2_with (at_builtin; refine wpList_appN _ rfl _ _ rfl w2.heap.size _ ns ⟨#[113]⟩ rfl HON.out w6.heap.size 1 rfl (heap_alloc_new _ _) (by simp; omega) ?_)
      intro g7 k7 w7 ho7 hg7
      generalize w6.alloc (Obj.cells #[Value.string { data := #[113] }, Value.slice none 0 0] 59) = w6A at *
      have hs6A := hA6.size
      have hb7 : Below w2.heap.size w6A w7 := (Below.refl _ _).grown hg7 (by omega) (fun k e => (owns_typed HON.out.row e).1)
      have ho8 := HON.out.o3.push hg7 ho7
      have hr7 := hrA.low hLo hb7
      have D7 := DA.low hb7 (Nat.le_of_lt hw2)
      have hbT7 : w7.heap[τ]? = _ := (hg7.block τ (by omega) (fun e => owns_ne HON.out.row hbTA (by decide) e.symm)).trans hbTA
      have hbR7 : w7.heap[w.heap.size]? = _ := (hg7.block w.heap.size (by omega) (fun e => owns_ne HON.out.row hbRA (by decide) e.symm)).trans hbRA
      have hfit : ∀ n ∈ ns ++ [(⟨⟨#[113]⟩, none, 0, []⟩ : Nd)], Fit n := fun n hn => by
        rcases List.mem_append.1 hn with hn | hn
        · exact HON.out.fits n hn
        · rw [List.mem_singleton.1 hn]
          exact ⟨by decide, by decide, fun k hk => by cases hk⟩
      have v1 := cell_of_one hbT7
      have v2 := cell_of_one hbR7
      have v3 := free_of_one hbR7
      have v4 := free_of_one hbT7
      clear hg7 ho7 hb7 hbA hA6 t1 t2 t3 t4
      go_wp2_with fail
      exact bodyPost_ret (v := .agg #[.slice (some ⟨g7, 0, none⟩) (ns.length + 1) k7]) (by simp [results, Try.results51, go_sem, v2]) rfl (RetTr.fin2 hr0 hr7 D7 hLo hw2 hB2 hbT7 ho8 (by simp; omega) hfit)
    · have j0 : ((y : Int) == 0) = false := beq_eq_false_iff_ne.2 (by omega)
      have j1 : ((y : Int) == 1) = false := beq_eq_false_iff_ne.2 (by omega)
      have j2 : ((y : Int) == 2) = false := beq_eq_false_iff_ne.2 (by omega)
      have j3 : ((y : Int) == 3) = false := beq_eq_false_iff_ne.2 (by omega)
      go_wp2_with fail
      exact bodyPost_ret (v := .agg #[.slice ao ns.length cap]) (by simp [results, Try.results51, go_sem, t2]) rfl (RetTr.fin hr0 hr6 D6 hon6.o3 hw2 (by omega) hon6.fits)

end Go.Proofs.Yteainbakfeedpaa
