/- visit: one node, its free words one after another. -/
import Derived.Test.YthoiajpbpoglfaaZKAN
namespace Go.Proofs.Ythoiajpbpoglfaa
set_option linter.unusedVariables false
set_option linter.unusedSimpArgs false
open Go.RowKit Go.Shelf
attribute [local go_sem] Oper.semAt_some

theorem stT_le {rec : (Nat → Int) → Nat → Nat × (Nat → Int) × Nat} {v most : Nat} (hr : ∀ σ m, m ≤ most → (rec σ m).2.2 ≤ most) : ∀ (l : List Int) (σ : Nat → Int) (m : Nat), m ≤ most → (stT rec v l σ m).2 ≤ most
  | [], _, _, h => h
  | x :: l, σ, m, h => stT_le hr l _ _ (hr _ _ h)
theorem Stay.size {P0 g : Nat} {W W3 : World} (h : Stay P0 g W W3) (hP : P0 < W3.heap.size) (hg : g < W3.heap.size) : W.heap.size ≤ W3.heap.size := by
  by_cases h0 : W.heap.size = 0
  · omega
  · obtain ⟨o, ho⟩ : ∃ o, W.heap[W.heap.size - 1]? = some o := ⟨_, Array.getElem?_eq_getElem (by omega)⟩
    by_cases e1 : W.heap.size - 1 = P0
    · omega
    · by_cases e2 : W.heap.size - 1 = g
      · omega
      · have h1 := (Array.getElem?_eq_some_iff.1 (h _ _ ho e1 e2)).1
        omega
theorem vl_snoc {M : Nat} (l : List (Fin M)) (y : Fin M) : vl (l ++ [y]) = vl l ++ [((y : Nat) : Int)] := by simp [vl]
/-- A region that ends in one way alone: how, is found by walking it. -/
theorem wpIn_at {F : Fence} {n : Nat} {P : Program} {Q : Exit → Act → World → Prop} {a : Act} {w : World} {c : Code} {A : Act} {W : World} (h1 : c.wpIn F n P (fun e a' w' => e = Exit.normal ∧ a' = A ∧ w' = W) a w) (h2 : Q .normal A W) : c.wpIn F n P Q a w :=
  wpIn_mono h1 (by rintro e a' w' ⟨rfl, rfl, rfl⟩; exact h2)

set_option maxHeartbeats 4000000 in
set_option maxRecDepth 100000 in
theorem visit_step {w0 w : World} {P0 H K n vc g cp m nc k : Nat} {va na : Option Addr} {nr : List Int} {σ : Nat → Int} {vis most : Nat} {ov mv : Nat → Value} {cr : Nat → Int} {xo bd : Nat → List Int} (ks : List Int) (hks : ks.length = n) (hn2 : n ≤ 200) (hkr : ∀ x ∈ ks, 1 ≤ x ∧ x ≤ 4096) (hr : RdI w0 va ks)
    (hK : K ≤ 1048576) (hm : nr.length = m) (hk : k < m) (hm2 : m ≤ 200) (hvm : vis < most) (hmost : most ≤ 20000) (v : Nat) (t : List Nat) (hv : nr[k]? = some (v : Int)) (hvn : v < n) (hno : ∀ u ∈ v :: t, σ u = -1) (hnd : (v :: t).Nodup)
    (hxo : ∀ i, i < n → ∀ y ∈ xo i, 0 ≤ y ∧ y < (n : Int) ∧ y ≠ (i : Int))
    (fw : (Nat → Int) → Nat → List Int) (hfw : ∀ σ, fw σ v = fwN (2 ^ (min (ks.getD v 0) 10).toNat) (xo v) (bd v) σ)
    (h : Pt w0 w P0 H K va n vc (.slice na m nc) (.slice (some ⟨g, 0, none⟩) n cp) nr (lsOf σ n) (vis : Int) (most : Int) ov mv cr xo bd)
    (IH : ∀ (τ : Nat → Int) (q : Nat) (u : World), q ≤ most → (∀ z ∈ t, τ z = -1) → Pt w0 u P0 H K va n vc (.slice na m nc) (.slice (some ⟨g, 0, none⟩) n cp) nr (lsOf τ n) (q : Int) (most : Int) ov mv cr xo bd →
      Calls Try.prog 35 #[.pointer (some ⟨P0, 0, none⟩), .int .i64 ((k + 1 : Nat) : Int)] u (RetV w0 u P0 H K va n vc (.slice na m nc) g cp nr most ov mv cr xo bd (visF fw most t τ q))) :
    Calls Try.prog 35 #[.pointer (some ⟨P0, 0, none⟩), .int .i64 (k : Int)] w (RetV w0 w P0 H K va n vc (.slice na m nc) g cp nr most ov mv cr xo bd (visF fw most (v :: t) σ vis)) := by
  have p2 := h.px.cell 2
  have p4 := h.px.cell 4
  have p5 := h.px.cell 5
  simp at p2 p4 p5
  have lp := h.px.lt
  have hlP : P0 < w.heap.size := lp
  have hgw : g < w.heap.size := (h.row.lt rfl).2
  have hnv0 : ∀ b, (Value.slice na m nc).ownBlock = some b → b < w.heap.size := fun b hb => (h.nar.lt hb).2
  have hw00 : w0.heap.size ≤ w.heap.size := h.bel.size
  have hkm : ((k : Int) == (m : Int)) = false := by simp; omega
  have hvv : ((vis : Int) == (most : Int)) = false := by simp; omega
  have lp1 : P0 < w.heap.size + 1 := by omega
  have lp2 : P0 < w.heap.size + 1 + 1 := by omega
  have lp3 : P0 < w.heap.size + 1 + 1 + 1 := by omega
  have HNV0 := kide hnv0
  clear hnv0
  have HP := kide h
  have HIH := kide IH
  clear h IH
  refine callsIn_wide.1 (callsIn_of_wp_marks (n := 8) Try.func35 rfl trivial ?_ rfl)
  simp only [Try.ntmps35, List.size_toArray, List.length_cons, List.length_nil, Nat.reduceAdd, Nat.reduceSub, Array.replicate_succ, Array.replicate_zero, List.push_toArray, List.append_toArray, List.nil_append, List.cons_append]
  gi_wp2
  apply wpIn_at
  · gi_region
    all_goals exact ⟨rfl, rfl, rfl⟩
  gi_wp2
  apply wpIn_at
  · gi_region
    all_goals exact ⟨rfl, rfl, rfl⟩
  have hb1 : Below w.heap.size w (((w.alloc (Obj.cells #[Value.pointer (some ⟨P0, 0, none⟩)] 64)).alloc (Obj.cells #[Value.int .i64 (k : Int)] 3)).alloc (Obj.cells #[Value.int .i64 0] 2)) := (((Below.refl _ _).alloc (Nat.le_refl _) _).alloc (by simp) _).alloc (by simp; omega) _
  have hb2 : Below (((w.alloc (Obj.cells #[Value.pointer (some ⟨P0, 0, none⟩)] 64)).alloc (Obj.cells #[Value.int .i64 (k : Int)] 3)).alloc (Obj.cells #[Value.int .i64 0] 2)).heap.size (((w.alloc (Obj.cells #[Value.pointer (some ⟨P0, 0, none⟩)] 64)).alloc (Obj.cells #[Value.int .i64 (k : Int)] 3)).alloc (Obj.cells #[Value.int .i64 0] 2)) (((w.alloc (Obj.cells #[Value.pointer (some ⟨P0, 0, none⟩)] 64)).alloc (Obj.cells #[Value.int .i64 (k : Int)] 3)).alloc (Obj.cells #[Value.int .i64 0] 2)).drew.drew := ((Below.refl _ _).drew).drew
  have hbA : Below w.heap.size w (((w.alloc (Obj.cells #[Value.pointer (some ⟨P0, 0, none⟩)] 64)).alloc (Obj.cells #[Value.int .i64 (k : Int)] 3)).alloc (Obj.cells #[Value.int .i64 0] 2)).drew.drew := hb1.drew.drew
  have XA : Bz (((w.alloc (Obj.cells #[Value.pointer (some ⟨P0, 0, none⟩)] 64)).alloc (Obj.cells #[Value.int .i64 (k : Int)] 3)).alloc (Obj.cells #[Value.int .i64 0] 2)).drew.drew w.heap.size #[.pointer (some ⟨P0, 0, none⟩)] 64 := ((Bz.new w _ _).later (((Below.refl _ _).alloc (Nat.le_refl _) _).alloc (by simp) _)).later hb2
  have XB : Bz (((w.alloc (Obj.cells #[Value.pointer (some ⟨P0, 0, none⟩)] 64)).alloc (Obj.cells #[Value.int .i64 (k : Int)] 3)).alloc (Obj.cells #[Value.int .i64 0] 2)).drew.drew (w.heap.size + 1) #[.int .i64 (k : Int)] 3 := by
    have h9 := (Bz.new (w.alloc (Obj.cells #[Value.pointer (some ⟨P0, 0, none⟩)] 64)) #[.int .i64 (k : Int)] 3).later ((Below.refl _ _).alloc (Nat.le_refl _) (.cells #[.int .i64 0] 2))
    rw [World.size_alloc] at h9
    exact h9.later hb2
  have XC : Bz (((w.alloc (Obj.cells #[Value.pointer (some ⟨P0, 0, none⟩)] 64)).alloc (Obj.cells #[Value.int .i64 (k : Int)] 3)).alloc (Obj.cells #[Value.int .i64 0] 2)).drew.drew (w.heap.size + 1 + 1) #[.int .i64 0] 2 := by
    have h9 := Bz.new ((w.alloc (Obj.cells #[Value.pointer (some ⟨P0, 0, none⟩)] 64)).alloc (Obj.cells #[Value.int .i64 (k : Int)] 3)) #[.int .i64 0] 2
    rw [World.size_alloc, World.size_alloc] at h9
    exact h9.later hb2
  have HP1 := kide (HP.out.later hbA)
  have HBA := kide hbA
  generalize (((w.alloc (Obj.cells #[Value.pointer (some ⟨P0, 0, none⟩)] 64)).alloc (Obj.cells #[Value.int .i64 (k : Int)] 3)).alloc (Obj.cells #[Value.int .i64 0] 2)).drew.drew = W1 at *
  clear hb1 hb2 hbA p2 p4 p5 HP lp1 lp2 lp3
  have HXA := kide XA
  have HXB := kide XB
  have HXC := kide XC
  have a0 := XA.cell 0
  have b0 := XB.cell 0
  have p2 := HP1.out.px.cell 2
  have p4 := HP1.out.px.cell 4
  have f4 := HP1.out.px.froz 4
  simp at a0 b0 p2 p4
  have la := XA.lt
  have lp2 := HP1.out.px.lt
  clear XA XB XC
  gi_wp2
  clear a0 b0 p2 p4 f4 la lp2
  have hwz : w0.heap.size ≤ P0 := Nat.le_trans HP1.out.lo (Nat.le_of_lt HP1.out.hP)
  have HPV := kide (HP1.out.visit ((vis : Int) + 1))
  have hPw : P0 < w.heap.size := hlP
  have HXA2 := kide (HXA.out.other (c := P0) (by omega) 4 (.int .i64 ((vis : Int) + 1)))
  have HXB2 := kide (HXB.out.other (c := P0) (by omega) 4 (.int .i64 ((vis : Int) + 1)))
  have HXC2 := kide (HXC.out.other (c := P0) (by omega) 4 (.int .i64 ((vis : Int) + 1)))
  have HST : Hid (Stay P0 g w (W1.setCell ⟨P0, 4, none⟩ (.int .i64 ((vis : Int) + 1)))) := fun b o h1 h2 h3 => by
    rw [heap_setCell_other _ _ _ _ (fun e => h2 (by simpa using e))]
    exact (HBA.out.block b (Array.getElem?_eq_some_iff.1 h1).1).trans h1
  generalize W1.setCell ⟨P0, 4, none⟩ (.int .i64 ((vis : Int) + 1)) = W2 at *
  clear HXA HXB HXC HBA HP1
  obtain ⟨gn, cn, hna⟩ := HPV.out.nar.formP (by omega)
  have hna1 : na = some ⟨gn, 0, none⟩ := by injection hna
  subst hna1
  have a0 := HXA2.out.cell 0
  have b0 := HXB2.out.cell 0
  have p2 := HPV.out.px.cell 2
  have q0 := HPV.out.nar.cellO (i := k) (by omega)
  rw [List.getD, hv] at q0
  simp at a0 b0 p2 q0
  have la := HXA2.out.lt
  have lb := HXB2.out.lt
  have lp := HPV.out.px.lt
  have lq := block_lt_of_cell q0
  simp only [] at lq
  apply wpIn_at
  · gi_region
    all_goals exact ⟨rfl, rfl, rfl⟩
  gi_wp2
  have hbN : Below W2.heap.size W2 (W2.alloc (Obj.cells #[Value.int .i64 (v : Int)] 2)).drew := ((Below.refl _ _).alloc (Nat.le_refl _) _).drew
  have HVS : Hid (Vs w0 w P0 H K va n vc (.slice (some ⟨gn, 0, none⟩) nr.length nc) g cp nr most ov mv cr xo bd w.heap.size W2.heap.size k v (.int .i64 0) σ (vis + 1) (W2.alloc (Obj.cells #[Value.int .i64 (v : Int)] 2)).drew) := by
    have h9 := HPV.out.later hbN
    rw [show (vis : Int) + 1 = ((vis + 1 : Nat) : Int) by push_cast; rfl] at h9
    exact ⟨h9, HST.out.trans (Stay.of hbN), HXA2.out.later hbN, HXB2.out.later hbN, HXC2.out.later hbN, (Bz.new W2 _ _).later ((Below.refl _ _).drew)⟩
  have hwW : w.heap.size < W2.heap.size := HXA2.out.lt
  have hwW2 : w.heap.size + 1 + 1 < W2.heap.size := HXC2.out.lt
  have hgP : P0 ≤ g := (HPV.out.row.lt rfl).1
  have hgW : g < W2.heap.size := (HPV.out.row.lt rfl).2
  clear hbN HPV HST HXA2 HXB2 HXC2 a0 b0 p2 q0 la lb lp lq
  obtain ⟨Nb, hNb⟩ : ∃ Nb, W2.heap.size = Nb := ⟨_, rfl⟩
  rw [hNb] at HVS hwW hwW2 hgW
  simp only [hNb]
  generalize (W2.alloc (Obj.cells #[Value.int .i64 (v : Int)] 2)).drew = V at *
  refine ⟨trivial, (free_in Fence.wide 7 trivial rfl P0 (v : Int) V).mono ?_⟩
  rintro e U ⟨rfl, hU⟩
  have hbU : Below V.heap.size V U := by
    rw [hU]
    exact ((Below.refl _ _).alloc (Nat.le_refl _) _).alloc (by simp) _
  have XZ0 : Bz U V.heap.size #[.pointer (some ⟨P0, 0, none⟩)] 64 := by
    rw [hU]
    exact (Bz.new V _ _).later ((Below.refl _ _).alloc (Nat.le_refl _) _)
  have XZ1 : Bz U (V.heap.size + 1) #[.int .i64 (v : Int)] 2 := by
    rw [hU]
    have h9 := Bz.new (V.alloc (Obj.cells #[.pointer (some ⟨P0, 0, none⟩)] 64)) #[.int .i64 (v : Int)] 2
    rwa [World.size_alloc] at h9
  have HVU := kide (HVS.out.later hbU)
  have hNV : Nb < V.heap.size := HVS.out.bn.lt
  clear hU hbU HVS
  obtain ⟨Z, HZ⟩ : ∃ Z, Hid (V.heap.size = Z) := ⟨_, rfl⟩
  rw [HZ.out] at XZ0 XZ1 hNV
  simp only [HZ.out]
  gi_wp2
  obtain ⟨-, -, h9 | ⟨b, o, rfl, hc0⟩⟩ := hr
  · rw [h9] at hks; simp at hks; omega
  have hc9 := hc0 v (by omega)
  have hbw := block_lt_of_cell hc9
  simp only [] at hbw
  have hcx : U.cell? ⟨b, o + v, none⟩ = some (.int .i64 (ks.getD v 0)) := (HVU.out.pt.bel.cell (p := ⟨b, o + v, none⟩) hbw).trans hc9
  have hx1 := hkr (ks.getD v 0) (by rw [List.getD, List.getElem?_eq_getElem (by omega)]; exact List.getElem_mem _)
  generalize ks.getD v 0 = x at *
  obtain ⟨M, hM⟩ : ∃ M : Nat, M = 2 ^ (min x 10).toNat := ⟨_, rfl⟩
  have h0M : 0 < M := by rw [hM]; exact Nat.two_pow_pos _
  obtain ⟨oa, oc, hov, hxr, hxb⟩ := HVU.out.pt.others hvn hK (fun y hy => by have := hxo v hvn y hy; unfold in64; omega)
  obtain ⟨mr, hmr, hlu⟩ := HVU.out.pt.look (q := v) hvn hgP
  obtain ⟨hh0, hh1, hh2⟩ := HVU.out.pt.ht.hg.cells hvn
  rw [hov] at hh0
  rw [hmr] at hh1
  have hPw : w0.heap.size ≤ P0 := Nat.le_trans HVU.out.pt.lo (Nat.le_of_lt HVU.out.pt.hP)
  have hHP := HVU.out.pt.hP
  have hPg : P0 ≠ g := fun e => by
    obtain ⟨cur, hh⟩ := HVU.out.pt.row.typedG (b := g) rfl
    have h8 := HVU.out.pt.px
    rw [e] at h8
    have h7 := (show U.heap[g]? = _ from h8).symm.trans hh
    simp at h7
  have p0 := HVU.out.pt.px.cell 0
  have p1 := HVU.out.pt.px.cell 1
  have p3 := HVU.out.pt.px.cell 3
  have bz0 := XZ0.cell 0
  have bz1 := XZ1.cell 0
  simp at p0 p1 p3 bz0 bz1
  have hPU : P0 < U.heap.size := HVU.out.pt.px.lt
  have hZU : Z + 1 < U.heap.size := XZ1.lt
  have hwU : w.heap.size ≤ U.heap.size := Nat.le_trans (Nat.le_of_lt HVU.out.ba.lt) (Nat.le_refl _)
  have hws : ∀ j, j < n → j ≠ v → U.cell? ⟨g, j, none⟩ = some (.int .i64 (σ j)) := fun j hj _ => by
    rw [HVU.out.pt.row.cellO (by rw [lsOf_len]; exact hj), lsOf_get hj]
  have hws' : v = 0 → ∃ y, U.cell? ⟨g, 0, none⟩ = some y := fun _ => ⟨_, HVU.out.pt.row.cellO (i := 0) (by rw [lsOf_len]; omega)⟩
  have hne : Z ≠ P0 ∧ Z ≠ g ∧ Z + 1 ≠ P0 ∧ Z + 1 ≠ g ∧ H ≠ P0 ∧ H ≠ g ∧ b ≠ P0 ∧ b ≠ g ∧ P0 ≠ g ∧ ∀ xb xo sp, oa = some ⟨xb, xo, sp⟩ → xb ≠ P0 ∧ xb ≠ g :=
    ⟨by omega, by omega, by omega, by omega, by omega, by omega, by omega, by omega, hPg, fun xb xq sp e => by have := hxb xb xq sp e; omega⟩
  refine wpIn_rangeFunc_ownH rfl (by omega) (gf := 86) (lb := #[.pointer (some ⟨Z, 0, none⟩), .pointer (some ⟨Z + 1, 0, none⟩)]) rfl trivial (enters_of Try.func86 (by kernel_rfl) rfl)
    (freeG_stops Fence.wide 7 trivial rfl (by omega) Z (Z + 1) P0 H n M b o vc x hx1 h0M hM v hvn hn2 P0 g cp oa (xo v).length oc (xo v) (bd v) mr (cr v) σ rfl (hxo v hvn) U bz0 bz1 p0 p1 hcx hh0 hh1 hh2 p3 hxr hws hws' hne hlu)
    KpF.trans (fun W l o o' hl ho hc _ => KpF.put ho hc (Nat.lt_of_lt_of_le hPU hl)) (Below.refl _ _) (fun _ => rfl)
    (fun pre W => noT (visF fw most t) v (vl pre) σ (vis + 1) ∧ Vs w0 w P0 H K (some ⟨b, o, none⟩) n vc (.slice (some ⟨gn, 0, none⟩) nr.length nc) g cp nr most ov mv cr xo bd w.heap.size Nb k v (.int .i64 0) (stT (visF fw most t) v (vl pre) σ (vis + 1)).1 (stT (visF fw most t) v (vl pre) σ (vis + 1)).2 W)
    (fun c pre W => c = Code.ret ∧ ∃ (pre' : List (Fin M)) (y : Fin M) (r : Nat × (Nat → Int) × Nat), pre = pre' ++ [y] ∧ noT (visF fw most t) v (vl pre') σ (vis + 1) ∧ r = visF fw most t (upd (stT (visF fw most t) v (vl pre') σ (vis + 1)).1 v ((y : Nat) : Int)) (stT (visF fw most t) v (vl pre') σ (vis + 1)).2 ∧ r.1 ≠ 2 ∧ Vs w0 w P0 H K (some ⟨b, o, none⟩) n vc (.slice (some ⟨gn, 0, none⟩) nr.length nc) g cp nr most ov mv cr xo bd w.heap.size Nb k v (.int .i64 (r.1 : Int)) r.2.1 r.2.2 W)
    (fun s A B row hs hg hr => ⟨hs.1, hs.2.own hg hr hwU hPU⟩) (fun c s A B row hs hg hr => ⟨hs.1, by obtain ⟨pre', y, r, h1, h2, h3, h4, h5⟩ := hs.2; exact ⟨pre', y, r, h1, h2, h3, h4, h5.own hg hr hwU hPU⟩⟩)
    ⟨trivial, HVU.out⟩
    (fun y a' _ => ∃ (u0 u1 u7 u8 u9 u10 u11 u12 u13 u14 u15 u16 u17 u18 u19 u20 u21 u22 u23 u24 u25 u26 u27 u28 u29 u30 u31 u32 u33 u34 u35 u36 u37 u38 u39 u40 u41 u42 u43 u44 u45 u46 u47 u48 u49 u50 u51 u52 u53 u54 u55 u56 u57 u58 u59 u60 u61 : Value), a' = { tmps := #[u0, u1, Value.pointer (some ⟨w.heap.size, 0, none⟩), Value.pointer (some ⟨w.heap.size + 1, 0, none⟩), Value.pointer (some ⟨w.heap.size + 1 + 1, 0, none⟩), Value.pointer (some ⟨Nb, 0, none⟩), Value.int .i64 ((y : Nat) : Int), u7, u8, u9, u10, u11, u12, u13, u14, u15, u16, u17, u18, u19, u20, u21, u22, u23, u24, u25, u26, u27, u28, u29, u30, u31, u32, u33, u34, u35, u36, u37, u38, u39, u40, u41, u42, u43, u44, u45, u46, u47, u48, u49, u50, u51, u52, u53, u54, u55, u56, u57, u58, u59, u60, u61], defers := [] }) (fun _ _ _ _ _ _ h _ _ => h)
    ?assign ?body ?done ?stop
  case assign =>
    rintro l pre y W K' hU hK'
    have HK9 := kide hK'
    have HU := kide hU
    clear hK' hU
    gi_wp2
    exact HK9.out _ _ (KeepsFrom.refl _ _) (KpF.refl _ _ _ _ _ _) HU.out ⟨_, _, _, _, _, _, _, _, _, _, _, _, _, _, _, _, _, _, _, _, _, _, _, _, _, _, _, _, _, _, _, _, _, _, _, _, _, _, _, _, _, _, _, _, _, _, _, _, _, _, _, _, _, _, _, _, _, rfl⟩
  case body =>
    rintro l pre y a' W hl hrec ⟨hnt, hV⟩ ⟨u0, u1, u7, u8, u9, u10, u11, u12, u13, u14, u15, u16, u17, u18, u19, u20, u21, u22, u23, u24, u25, u26, u27, u28, u29, u30, u31, u32, u33, u34, u35, u36, u37, u38, u39, u40, u41, u42, u43, u44, u45, u46, u47, u48, u49, u50, u51, u52, u53, u54, u55, u56, u57, u58, u59, u60, u61, rfl⟩ hpN
    have HV := kide hV
    have HNT := kide hnt
    have d1 := hV.ba.cell 0
    have d2 := hV.bb.cell 0
    have d3 := hV.pt.px.cell 3
    have d4 := hV.bn.cell 0
    have d5 := hV.pt.row.cellO (i := v) (by rw [lsOf_len]; exact hvn)
    have d6 := hV.pt.row.frozO v
    simp at d1 d2 d3 d4
    clear hV hnt
    gi_wp2
    apply wpIn_at
    · gi_region
      all_goals exact ⟨rfl, rfl, rfl⟩
    have HSW : Hid (Stay P0 g W (W.setCell ⟨g, v, none⟩ (.int .i64 ((y : Nat) : Int))).drew) := fun b o h1 h2 h3 => (show (W.setCell ⟨g, v, none⟩ (.int .i64 ((y : Nat) : Int))).heap[b]? = some o by rw [heap_setCell_other _ _ _ _ (fun e => h3 (by simpa using e))]; exact h1)
    have HV2 := kide ((HV.out.put hvn ((y : Nat) : Int) ⟨by omega, by omega, by omega, by omega⟩).later (show Below (W.setCell ⟨g, v, none⟩ (.int .i64 ((y : Nat) : Int))).heap.size (W.setCell ⟨g, v, none⟩ (.int .i64 ((y : Nat) : Int))) (W.setCell ⟨g, v, none⟩ (.int .i64 ((y : Nat) : Int))).drew from (Below.refl _ _).drew))
    clear d1 d2 d3 d4 d5 d6
    generalize (W.setCell ⟨g, v, none⟩ (.int .i64 ((y : Nat) : Int))).drew = W1 at *
    have d1 := HV2.out.ba.cell 0
    have d2 := HV2.out.bb.cell 0
    simp at d1 d2
    have hq9 : (stT (visF fw most t) v (vl pre) σ (vis + 1)).2 ≤ most := stT_le (fun σ m h => (visF_le fw most t σ m h).2) _ _ _ (by omega)
    have hτ : ∀ z ∈ t, upd (stT (visF fw most t) v (vl pre) σ (vis + 1)).1 v ((y : Nat) : Int) z = -1 := fun z hz => by
      have hzv : z ≠ v := fun e => (List.nodup_cons.1 hnd).1 (by rw [← e]; exact hz)
      rw [upd_ne _ _ hzv, stT_far (fun σ => ∀ u ∈ t, σ u = -1) (fun σ x hi u hu => by rw [upd_ne _ _ (fun e => (List.nodup_cons.1 hnd).1 (by rw [← e]; exact hu))]; exact hi u hu) (fun σ m hi h => visF_none fw most t σ m (List.nodup_cons.1 hnd).2 hi h) (vl pre) σ (vis + 1) (fun u hu => hno u (List.mem_cons_of_mem _ hu)) HNT.out z hzv]
      exact hno z (List.mem_cons_of_mem _ hz)
    have HCALL := kide (HIH.out _ _ W1 hq9 hτ HV2.out.pt)
    have HQ9 := kide hq9
    have HTT := kide hτ
    rw [show ((k + 1 : Nat) : Int) = (k : Int) + 1 by push_cast; rfl] at HCALL
    clear hq9 hτ
    gi_wp2
    refine ⟨trivial, (CallsIn.inRound l (callsIn_wide.2 HCALL.out)).mono ?_⟩
    rintro e W3 hret
    have he := hret.1
    subst he
    have HV3 := kide (HV2.out.back hret ⟨by omega, by omega, by omega, by omega⟩ ⟨by omega, by omega, by omega, by omega⟩)
    have HRT := kide hret
    clear hret d1 d2
    obtain ⟨r, hre⟩ : ∃ r, visF fw most t (upd (stT (visF fw most t) v (vl pre) σ (vis + 1)).1 v ((y : Nat) : Int)) (stT (visF fw most t) v (vl pre) σ (vis + 1)).2 = r := ⟨_, rfl⟩
    rw [hre] at HV3 HRT
    simp only [hre]
    have hgU : g < U.heap.size := (HVU.out.pt.row.lt rfl).2
    have hS3 : Stay P0 g W W3 := HSW.out.trans HRT.out.2.2
    have hz3 := hS3.size HV3.out.pt.px.lt (HV3.out.pt.row.lt rfl).2
    have KF : Hid (KeepsFrom U.heap.size W W3) := ⟨hz3, fun j o hj h0 ho => hS3 j o h0 (by omega) (by omega)⟩
    clear hS3 hz3
    by_cases hr2 : r.1 = 2
    · have hr3 : r.2.1 = upd (stT (visF fw most t) v (vl pre) σ (vis + 1)).1 v ((y : Nat) : Int) := by
        have h8 := visF_none fw most t _ (stT (visF fw most t) v (vl pre) σ (vis + 1)).2 (List.nodup_cons.1 hnd).2 HTT.out (by rw [hre]; exact hr2)
        rw [hre] at h8
        exact h8
      have HNI : Hid (noT (visF fw most t) v (vl (pre ++ [y])) σ (vis + 1)) := by
        show noT _ _ _ _ _
        rw [vl_snoc]
        exact noT_snoc _ _ _ _ HNT.out (by rw [hre]; exact hr2)
      have HST2 : Hid (stT (visF fw most t) v (vl (pre ++ [y])) σ (vis + 1) = (r.2.1, r.2.2)) := by
        show _ = _
        rw [vl_snoc, stT_snoc, hre]
      have HKP : Hid (KpF P0 g v P0 n W W3) := KpF.round HV.out.pt HV3.out.pt (HSW.out.trans HRT.out.2.2) (fun j hj => by rw [hr3, upd_ne _ _ hj])
      rw [hr2]
      gi_wp2
      refine ⟨KF.out, HKP.out, HNI.out, ?_⟩
      rw [HST2.out]
      exact HV3.out
    · have hc2 : (((r.1 : Nat) : Int) != 2) = true := by simp; omega
      have c4 := HV3.out.bc.froz 0
      have c5 := HV3.out.bc.cell 0
      simp at c5
      obtain ⟨rc, hrc⟩ : ∃ rc : Int, ((r.1 : Nat) : Int) = rc := ⟨_, rfl⟩
      have HRC := kide hrc
      rw [hrc] at hc2
      simp only [hrc]
      clear hrc
      gi_wp2
      refine ⟨⟨by simpa using KF.out.size, fun j o hj h0 ho => ?_⟩, rfl, pre, y, r, rfl, HNT.out, hre.symm, hr2, ?_⟩
      · rw [heap_setCell_other _ _ _ _ (by simp; omega)]
        exact KF.out.same j o hj h0 ho
      · rw [HRC.out]
        exact HV3.out.told (Nat.le_refl _) hlP (by omega) (by omega) _ (fun b hb => by have := HNV0.out b hb; omega) hw00
  case done =>
    rintro D xs W hD hS ⟨hnt, hV⟩ hdf
    rw [hS, frT_all] at hnt hV
    have hres : visF fw most (v :: t) σ vis = (2, upd (stT (visF fw most t) v (fwN M (xo v) (bd v) σ) σ (vis + 1)).1 v (-1), (stT (visF fw most t) v (fwN M (xo v) (bd v) σ) σ (vis + 1)).2) := by
      show (if vis = most then _ else _) = _
      rw [if_neg (by omega), hfw, ← hM]
      exact tryF_done _ _ _ hnt
    have HRES := kide hres
    have HV := kide hV
    have HDF := kide hdf
    have d1 := hV.ba.cell 0
    have d3 := hV.pt.px.cell 3
    have d4 := hV.bn.cell 0
    have d5 := hV.pt.row.cellO (i := v) (by rw [lsOf_len]; exact hvn)
    have d6 := hV.pt.row.frozO v
    simp at d1 d3 d4
    clear hV hnt hdf hres
    gi_wp2
    apply wpIn_at
    · gi_region
      all_goals exact ⟨rfl, rfl, rfl⟩
    have hgU : g < U.heap.size := (HVU.out.pt.row.lt rfl).2
    have HV4 := kide ((HV.out.put hvn (-1) ⟨by omega, by omega, by omega, by omega⟩).later (show Below (W.setCell ⟨g, v, none⟩ (.int .i64 (-1))).heap.size (W.setCell ⟨g, v, none⟩ (.int .i64 (-1))) (W.setCell ⟨g, v, none⟩ (.int .i64 (-1))).drew from (Below.refl _ _).drew))
    have HD4 : Hid ((W.setCell ⟨g, v, none⟩ (.int .i64 (-1))).drew.heap[D]? = some (.deferred (some []))) := (show (W.setCell ⟨g, v, none⟩ (.int .i64 (-1))).heap[D]? = _ from by rw [heap_setCell_other _ _ _ _ (by simp; omega)]; exact HDF.out)
    clear d1 d3 d4 d5 d6
    generalize (W.setCell ⟨g, v, none⟩ (.int .i64 (-1))).drew = W4 at *
    have c4 := HV4.out.bc.froz 0
    have c5 := HV4.out.bc.cell 0
    simp at c5
    gi_wp2

    have HV5 := kide (HV4.out.told (Nat.le_refl _) hlP (by omega) (by omega) (.int .i64 2) (fun b hb => by have := HNV0.out b hb; omega) hw00)
    have HD5 : Hid ((W4.setCell ⟨w.heap.size + 1 + 1, 0, none⟩ (.int .i64 2)).heap[D]? = some (.deferred (some []))) := by
      show _ = _
      rw [heap_setCell_other _ _ _ _ (by simp; omega)]
      exact HD4.out
    generalize W4.setCell ⟨w.heap.size + 1 + 1, 0, none⟩ (.int .i64 2) = W5 at *
    refine leaves_mrk (fun u => Vs w0 w P0 H K (some ⟨b, o, none⟩) n vc (.slice (some ⟨gn, 0, none⟩) nr.length nc) g cp nr most ov mv cr xo bd w.heap.size Nb k v (.int .i64 2) (upd (stT (visF fw most t) v (fwN M (xo v) (bd v) σ) σ (vis + 1)).1 v (-1)) (stT (visF fw most t) v (fwN M (xo v) (bd v) σ) σ (vis + 1)).2 u) U.heap.size (fun u E hE hd hq => hq.own (row := some E) (grownBy_putObj' u E _) (fun r e => by cases e; exact ⟨hE, _, hd, rfl⟩) hwU hPU) (fun u hq => ?_) [D] W5 (by simp) (fun E hE => by simp at hE; subst hE; exact ⟨hD, HD5.out⟩) HV5.out
    have c9 := hq.bc.cell 0
    simp at c9
    refine ⟨.int .i64 2, by simp [results, Try.results35, go_sem, c9], ?_⟩
    rw [HRES.out]
    exact ⟨rfl, hq.pt, hq.st⟩
  case stop =>
    rintro D c pre W hD ⟨j, hj, hpre⟩ ⟨rfl, pre', y, r, h1, h2, h3, h4, hV⟩ hdf
    obtain ⟨rest, hrest⟩ := frT_pre M h0M (xo v) (bd v) σ hj
    have hres : visF fw most (v :: t) σ vis = r := by
      show (if vis = most then _ else _) = _
      rw [if_neg (by omega), hfw, ← hM, hrest, ← hpre, h1, vl_snoc, List.append_assoc, List.singleton_append, h3]
      exact tryF_stop _ _ _ _ _ h2 (by rw [← h3]; exact h4)
    have HRES := kide hres
    clear hres hrest hpre h1 h2 h3 h4 hj
    gi_wp2
    refine leaves_mrk (fun u => Vs w0 w P0 H K (some ⟨b, o, none⟩) n vc (.slice (some ⟨gn, 0, none⟩) nr.length nc) g cp nr most ov mv cr xo bd w.heap.size Nb k v (.int .i64 (r.1 : Int)) r.2.1 r.2.2 u) U.heap.size (fun u E hE hd hq => hq.own (row := some E) (grownBy_putObj' u E _) (fun r e => by cases e; exact ⟨hE, _, hd, rfl⟩) hwU hPU) (fun u hq => ?_) [D] W (by simp) (fun E hE => by simp at hE; subst hE; exact ⟨hD, hdf⟩) hV
    have c9 := hq.bc.cell 0
    simp at c9
    refine ⟨.int .i64 (r.1 : Int), by simp [results, Try.results35, go_sem, c9], ?_⟩
    rw [HRES.out]
    exact ⟨rfl, hq.pt, hq.st⟩

end Go.Proofs.Ythoiajpbpoglfaa
