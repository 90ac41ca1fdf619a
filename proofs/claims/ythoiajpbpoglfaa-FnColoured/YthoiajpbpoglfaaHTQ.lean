/- The painter's fill: each node that has no word gets its first free one. -/
import Derived.Test.YthoiajpbpoglfaaZKAO
import Derived.Test.YthoiajpbpoglfaaZKAL
import Derived.Handy
namespace Go.Proofs.Ythoiajpbpoglfaa
set_option linter.unusedVariables false
set_option linter.unusedSimpArgs false
open Go.RowKit Go.Shelf
attribute [local go_sem] Oper.semAt_some

/-- What lies between two rounds. -/
structure Ft (w0 : World) (P0 H K : Nat) (va : Option Addr) (n vc : Nat) (nv : Value) (g cp : Nat) (nr : List Int) (vis most : Int) (ov mv : Nat → Value) (cr : Nat → Int) (xo bd : Nat → List Int) (A : Nat) (Ds : List Nat) (τ : Nat → Int) (W : World) : Prop where
  pt : Pt w0 W P0 H K va n vc nv (.slice (some ⟨g, 0, none⟩) n cp) nr (lsOf τ n) vis most ov mv cr xo bd
  bx : Bz W A #[.pointer (some ⟨P0, 0, none⟩)] 64
  ds : ∀ D ∈ Ds, A ≤ D ∧ W.heap[D]? = some (.deferred (some []))
section
variable {w0 W W' : World} {P0 H K n vc g cp A : Nat} {va : Option Addr} {nv : Value} {nr : List Int} {vis most : Int} {ov mv : Nat → Value} {cr : Nat → Int} {xo bd : Nat → List Int} {Ds : List Nat} {τ : Nat → Int}
theorem Ft.later (h : Ft w0 P0 H K va n vc nv g cp nr vis most ov mv cr xo bd A Ds τ W) (hb : Below W.heap.size W W') : Ft w0 P0 H K va n vc nv g cp nr vis most ov mv cr xo bd A Ds τ W' :=
  ⟨h.pt.later hb, h.bx.later hb, fun D hD => ⟨(h.ds D hD).1, (hb.block D (lt_of_block (h.ds D hD).2)).trans (h.ds D hD).2⟩⟩
theorem Ft.own {row : Option Nat} {Z : Nat} (h : Ft w0 P0 H K va n vc nv g cp nr vis most ov mv cr xo bd A Ds τ W) (hg : W.grownBy W' row) (hr : ∀ r, row = some r → Z ≤ r ∧ ∃ o : Obj, W.heap[r]? = some o ∧ o.isCells = false) (hZ : P0 < Z) (hD : ∀ D ∈ Ds, D < Z) : Ft w0 P0 H K va n vc nv g cp nr vis most ov mv cr xo bd A Ds τ W' := by
  refine ⟨h.pt.own hg (fun r e => ⟨Nat.lt_of_lt_of_le hZ (hr r e).1, (hr r e).2⟩), bz_ownA h.bx hg (fun r e => (hr r e).2), fun D hd => ⟨(h.ds D hd).1, (hg.block D (lt_of_block (h.ds D hd).2) (fun e => ?_)).trans (h.ds D hd).2⟩⟩
  have := (hr D e.symm).1
  have := hD D hd
  omega
theorem Ft.put {i : Nat} (h : Ft w0 P0 H K va n vc nv g cp nr vis most ov mv cr xo bd A Ds τ W) (hi : i < n) (y : Int) : Ft w0 P0 H K va n vc nv g cp nr vis most ov mv cr xo bd A Ds (upd τ i y) (W.setCell ⟨g, i, none⟩ (.int .i64 y)) := by
  have h1 := h.pt.put (i := i) (by rw [lsOf_len]; exact hi) y
  rw [lsOf_set] at h1
  have hg := gsc W ⟨g, i, none⟩ (.int .i64 y)
  obtain ⟨cur, hh⟩ := h.pt.row.typedG (b := g) rfl
  refine ⟨h1, bz_grown h.bx hg (fun e => ?_), fun D hd => ⟨(h.ds D hd).1, (hg.block D (lt_of_block (h.ds D hd).2) (fun e => ?_)).trans (h.ds D hd).2⟩⟩
  · have h8 : W.heap[A]? = _ := h.bx
    cases e
    have h9 := h8.symm.trans hh
    simp at h9
  · cases e
    have h9 := (h.ds g hd).2.symm.trans hh
    simp at h9
end

set_option maxHeartbeats 4000000 in
set_option maxRecDepth 100000 in
theorem fill_told {w0 w : World} {P0 H K n vc g cp : Nat} {va : Option Addr} {nv : Value} {nr : List Int} {σ : Nat → Int} {vis most : Int} {ov mv : Nat → Value} {cr : Nat → Int} {xo bd : Nat → List Int} (ks : List Int) (hn : ks.length = n) (hn1 : 1 ≤ n) (hn2 : n ≤ 200) (hk : ∀ x ∈ ks, 1 ≤ x ∧ x ≤ 4096) (hr : RdI w0 va ks)
    (hK : K ≤ 1048576) (hxo : ∀ i, i < n → ∀ y ∈ xo i, 0 ≤ y ∧ y < (n : Int) ∧ y ≠ (i : Int)) (hfr : ∀ k, k < n → σ k = -1 → ∀ τ, fwP ks xo bd τ k ≠ [])
    (h : Pt w0 w P0 H K va n vc nv (.slice (some ⟨g, 0, none⟩) n cp) nr (lsOf σ n) vis most ov mv cr xo bd) :
    Calls Try.prog 36 #[.pointer (some ⟨P0, 0, none⟩)] w fun e w' => e = .returned (.tuple #[]) ∧ Pt w0 w' P0 H K va n vc nv (.slice (some ⟨g, 0, none⟩) n cp) nr (lsOf (flF (fwP ks xo bd) σ n) n) vis most ov mv cr xo bd := by
  have hcod := hr.1
  obtain ⟨-, -, h9 | ⟨b, o, rfl, hc0⟩⟩ := hr
  · rw [h9] at hn; simp at hn; omega
  have h0 : Pt w0 w P0 H K (some ⟨b, o, none⟩) n vc nv (.slice (some ⟨g, 0, none⟩) n cp) nr (lsOf (flF (fwP ks xo bd) σ 0) n) vis most ov mv cr xo bd := h
  have hba : Below w.heap.size w (w.alloc (Obj.cells #[.pointer (some ⟨P0, 0, none⟩)] 64)) := (Below.refl _ _).alloc (Nat.le_refl _) _
  have F0 : Hid (Ft w0 P0 H K (some ⟨b, o, none⟩) n vc nv g cp nr vis most ov mv cr xo bd w.heap.size [] (flF (fwP ks xo bd) σ 0) (w.alloc (Obj.cells #[.pointer (some ⟨P0, 0, none⟩)] 64))) := ⟨h0.later hba, Bz.new w _ _, fun D hD => by cases hD⟩
  have p3 := h.px.cell 3
  simp at p3
  have lp := h.px.lt
  have hP0 : w0.heap.size ≤ P0 := Nat.le_trans h.lo (Nat.le_of_lt h.hP)
  have hHP : H < P0 := h.hP
  have hgP : P0 ≤ g := (h.row.lt rfl).1
  have hgw9 : g < w.heap.size := (h.row.lt rfl).2
  have HC := kide hc0
  have HKS := kide (And.intro hn hk)
  have hww : w0.heap.size ≤ w.heap.size := h.bel.size
  have hPw : P0 < w.heap.size := lp
  clear hk h h0 hba hc0 hn
  refine callsIn_wide.1 (callsIn_of_wp_marks (n := 8) Try.func36 rfl trivial ?_ rfl)
  simp only [Try.ntmps36, List.size_toArray, List.length_cons, List.length_nil, Nat.reduceAdd, Nat.reduceSub, Array.replicate_succ, Array.replicate_zero, List.push_toArray, List.append_toArray, List.nil_append, List.cons_append]
  gi_wp2
  refine wpIn_loop (fun a wr => ∃ (k : Nat) (Ds : List Nat) (u2 u3 u10 u11 u12 u13 u14 u15 u16 u17 u18 u19 u20 u21 u22 u23 u24 u25 u26 u27 u28 u29 u30 u31 : Value), k ≤ n ∧ a = { tmps := #[Value.pointer (some ⟨P0, 0, none⟩), Value.pointer (some ⟨w.heap.size, 0, none⟩), u2, u3, Value.pointer (some ⟨P0, 0, none⟩), Value.pointer (some ⟨P0, 0, none⟩), Value.pointer (some ⟨P0, 3, none⟩), Value.slice (some ⟨g, 0, none⟩) n cp, Value.int .i64 (n : Int), Value.int .i64 (k : Int), u10, u11, u12, u13, u14, u15, u16, u17, u18, u19, u20, u21, u22, u23, u24, u25, u26, u27, u28, u29, u30, u31], defers := mrk Ds } ∧ Ds.Nodup ∧ Ft w0 P0 H K (some ⟨b, o, none⟩) n vc nv g cp nr vis most ov mv cr xo bd w.heap.size Ds (flF (fwP ks xo bd) σ k) wr)
    (fun a _ => n - (intOf (a.tmps.getD 9 undef)).toNat) ⟨0, [], _, _, _, _, _, _, _, _, _, _, _, _, _, _, _, _, _, _, _, _, _, _, _, _, Nat.zero_le _, rfl, List.nodup_nil, F0.out⟩ ?_
  rintro a wr ⟨k, Ds, u2, u3, u10, u11, u12, u13, u14, u15, u16, u17, u18, u19, u20, u21, u22, u23, u24, u25, u26, u27, u28, u29, u30, u31, hk, rfl, hnd, hF⟩
  clear F0 p3 lp
  by_cases hkn : k < n
  · have k1 : (k : Int) < (n : Int) := by omega
    have k0 : (k : Int) ≥ 0 := by omega
    have hkw : IntKind.i64.wrap ((k : Int) + 1) = (k : Int) + 1 := by rw [IntKind.wrap_i64]; omega
    have HKW := kide hkw
    clear hkw
    have HF := kide hF
    have HND := kide hnd
    obtain ⟨Bn, HBN⟩ : ∃ Bn, Hid (wr.heap.size = Bn) := ⟨_, rfl⟩
    have hb1 : Below wr.heap.size wr (wr.alloc (Obj.cells #[.int .i64 (k : Int)] 3)) := (Below.refl _ _).alloc (Nat.le_refl _) _
    have hF1 := hF.later hb1
    have XN := Bz.new wr #[.int .i64 (k : Int)] 3
    have c1 := hF1.bx.cell 0
    have c2 := hF1.pt.px.cell 3
    have c4 := hF1.pt.row.cellO (i := k) (by rw [lsOf_len]; exact hkn)
    rw [lsOf_get hkn] at c4
    simp at c1 c2
    have hwr : w.heap.size < wr.heap.size := hF.bx.lt
    clear hF hnd
    by_cases hno : flF (fwP ks xo bd) σ k k = -1
    · have hσk : σ k = -1 := by rw [← flF_far (fw := fwP ks xo bd) (σ := σ) (Nat.le_refl k)]; exact hno
      rw [hno] at c4
      gi_wp2
      apply wpIn_at
      · gi_region
        all_goals exact ⟨rfl, rfl, rfl⟩
      have hbd : Below (wr.alloc (Obj.cells #[Value.int .i64 (k : Int)] 3)).heap.size (wr.alloc (Obj.cells #[Value.int .i64 (k : Int)] 3)) (wr.alloc (Obj.cells #[Value.int .i64 (k : Int)] 3)).drew := (Below.refl _ _).drew
      have HF2 := kide (hF1.later hbd)
      have XN2 := kide (XN.later hbd)
      replace XN2 := XN2.out
      rw [HBN.out] at XN2
      replace XN2 := kide XN2
      clear hF1 XN c1 c2 c4 hb1 hbd
      try simp only [HBN.out]
      generalize (wr.alloc (Obj.cells #[Value.int .i64 (k : Int)] 3)).drew = V at *
      have c1 := HF2.out.bx.cell 0
      have c3 := XN2.out.cell 0
      simp at c1 c3
      have lb1 := HF2.out.bx.lt
      have lb2 := XN2.out.lt
      gi_wp2
      refine ⟨trivial, (free_in Fence.wide 7 trivial rfl P0 (k : Int) V).mono ?_⟩
      rintro e U ⟨rfl, hU⟩
      have hbU : Below V.heap.size V U := by
        rw [hU]
        exact ((Below.refl _ _).alloc (Nat.le_refl _) _).alloc (by simp) _
      have XZ0 : Bz U V.heap.size #[.pointer (some ⟨P0, 0, none⟩)] 64 := by
        rw [hU]
        exact (Bz.new V _ _).later ((Below.refl _ _).alloc (Nat.le_refl _) _)
      have XZ1 : Bz U (V.heap.size + 1) #[.int .i64 (k : Int)] 2 := by
        rw [hU]
        have h9 := Bz.new (V.alloc (Obj.cells #[.pointer (some ⟨P0, 0, none⟩)] 64)) #[.int .i64 (k : Int)] 2
        rwa [World.size_alloc] at h9
      have HF3 := kide (HF2.out.later hbU)
      have XN3 := kide (XN2.out.later hbU)
      have hVw : w.heap.size < V.heap.size := HF2.out.bx.lt
      clear hU hbU c1 c3 lb1 lb2 HF2 XN2
      obtain ⟨Z, HZ⟩ : ∃ Z, Hid (V.heap.size = Z) := ⟨_, rfl⟩
      rw [HZ.out] at XZ0 XZ1 hVw
      simp only [HZ.out]
      gi_wp2
      have bz0 := XZ0.cell 0
      have bz1 := XZ1.cell 0
      have p0 := HF3.out.pt.px.cell 0
      have p1 := HF3.out.pt.px.cell 1
      have p3 := HF3.out.pt.px.cell 3
      simp at bz0 bz1 p0 p1 p3
      have hcx : U.cell? ⟨b, o + k, none⟩ = some (.int .i64 (ks.getD k 0)) := by
        have h9 := HC.out k (by rw [HKS.out.1]; exact hkn)
        exact (HF3.out.pt.bel.cell (p := ⟨b, o + k, none⟩) (block_lt_of_cell h9)).trans h9
      have hbw : b < w0.heap.size := block_lt_of_cell (HC.out k (by rw [HKS.out.1]; exact hkn))
      have hx1 := HKS.out.2 (ks.getD k 0) (by rw [List.getD, List.getElem?_eq_getElem (by rw [HKS.out.1]; exact hkn)]; exact List.getElem_mem _)
      obtain ⟨M, hM⟩ : ∃ M : Nat, M = 2 ^ (min (ks.getD k 0) 10).toNat := ⟨_, rfl⟩
      have h0M : 0 < M := by rw [hM]; exact Nat.two_pow_pos _
      have hfw : fwP ks xo bd (flF (fwP ks xo bd) σ k) k = fwN M (xo k) (bd k) (flF (fwP ks xo bd) σ k) := by rw [hM]; rfl
      have HFW := kide (And.intro hfw (hfr k hkn hσk (flF (fwP ks xo bd) σ k)))
      clear hfw
      generalize ks.getD k 0 = x at *
      have hDU : ∀ D ∈ Ds, D < U.heap.size := fun D hD => lt_of_block (HF3.out.ds D hD).2
      have hwU : w0.heap.size ≤ U.heap.size := HF3.out.pt.bel.size
      have hwU2 : w.heap.size < U.heap.size := HF3.out.bx.lt
      have hnx : Bn < U.heap.size := XN3.out.lt
      obtain ⟨oa, oc, hov, hxr, hxb⟩ := HF3.out.pt.others hkn hK (fun y hy => by have := hxo k hkn y hy; unfold in64; omega)
      obtain ⟨mr, hmr, hlu⟩ := HF3.out.pt.look (q := k) hkn hgP
      obtain ⟨hh0, hh1, hh2⟩ := HF3.out.pt.ht.hg.cells hkn
      rw [hov] at hh0
      rw [hmr] at hh1
      have hPg : P0 ≠ g := fun e => by
        obtain ⟨cur, hh⟩ := HF3.out.pt.row.typedG (b := g) rfl
        have h8 := HF3.out.pt.px
        rw [e] at h8
        have h7 := (show U.heap[g]? = _ from h8).symm.trans hh
        simp at h7
      have hPU : P0 < U.heap.size := HF3.out.pt.px.lt
      have hZU : Z + 1 < U.heap.size := XZ1.lt
      have hws : ∀ j, j < n → j ≠ k → U.cell? ⟨g, j, none⟩ = some (.int .i64 (flF (fwP ks xo bd) σ k j)) := fun j hj _ => by
        rw [HF3.out.pt.row.cellO (by rw [lsOf_len]; exact hj), lsOf_get hj]
      have hws' : k = 0 → ∃ y, U.cell? ⟨g, 0, none⟩ = some y := fun _ => ⟨_, HF3.out.pt.row.cellO (i := 0) (by rw [lsOf_len]; omega)⟩
      have hgw : g < w.heap.size := hgw9
      have hne : Z ≠ P0 ∧ Z ≠ g ∧ Z + 1 ≠ P0 ∧ Z + 1 ≠ g ∧ H ≠ P0 ∧ H ≠ g ∧ b ≠ P0 ∧ b ≠ g ∧ P0 ≠ g ∧ ∀ xb xo sp, oa = some ⟨xb, xo, sp⟩ → xb ≠ P0 ∧ xb ≠ g :=
        ⟨by omega, by omega, by omega, by omega, by omega, by omega, by omega, by omega, hPg, fun xb xq sp e => by have := hxb xb xq sp e; omega⟩
      refine wpIn_rangeFunc_ownH rfl (by omega) (gf := 86) (lb := #[.pointer (some ⟨Z, 0, none⟩), .pointer (some ⟨Z + 1, 0, none⟩)]) rfl trivial (enters_of Try.func86 (by kernel_rfl) rfl)
        (freeG_stops Fence.wide 7 trivial rfl (by omega) Z (Z + 1) P0 H n M b o vc x hx1 h0M hM k hkn hn2 P0 g cp oa (xo k).length oc (xo k) (bd k) mr (cr k) (flF (fwP ks xo bd) σ k) rfl (hxo k hkn) U bz0 bz1 p0 p1 hcx hh0 hh1 hh2 p3 hxr hws hws' hne hlu)
        KpF.trans (fun W l o o' hl ho hc _ => KpF.put ho hc (Nat.lt_of_lt_of_le hPU hl)) (Below.refl _ _) (fun _ => rfl)
        (fun pre W => pre = [] ∧ Ft w0 P0 H K (some ⟨b, o, none⟩) n vc nv g cp nr vis most ov mv cr xo bd w.heap.size Ds (flF (fwP ks xo bd) σ k) W ∧ Bz W Bn #[.int .i64 (k : Int)] 3)
        (fun c pre W => c = Code.exit 2 ∧ ∃ y : Fin M, pre = [y] ∧ Ft w0 P0 H K (some ⟨b, o, none⟩) n vc nv g cp nr vis most ov mv cr xo bd w.heap.size Ds (upd (flF (fwP ks xo bd) σ k) k ((y : Nat) : Int)) W)
        (fun s A B row hs hg hr => ⟨hs.1, hs.2.1.own hg hr hPU hDU, bz_ownA hs.2.2 hg (fun r e => (hr r e).2)⟩) (fun c s A B row hs hg hr => ⟨hs.1, by obtain ⟨y, h1, h2⟩ := hs.2; exact ⟨y, h1, h2.own hg hr hPU hDU⟩⟩)
        ⟨rfl, HF3.out, XN3.out⟩
        (fun y a' _ => ∃ (v10 v11 v12 v13 v14 v15 v16 v17 v18 v19 v20 v21 v22 v23 v24 v25 v26 v27 v28 v29 v30 v31 : Value), a' = { tmps := #[Value.pointer (some ⟨P0, 0, none⟩), Value.pointer (some ⟨w.heap.size, 0, none⟩), Value.pointer (some ⟨Bn, 0, none⟩), Value.int .i64 ((y : Nat) : Int), Value.pointer (some ⟨P0, 0, none⟩), Value.pointer (some ⟨P0, 0, none⟩), Value.pointer (some ⟨P0, 3, none⟩), Value.slice (some ⟨g, 0, none⟩) n cp, Value.int .i64 (n : Int), Value.int .i64 (k : Int), v10, v11, v12, v13, v14, v15, v16, v17, v18, v19, v20, v21, v22, v23, v24, v25, v26, v27, v28, v29, v30, v31], defers := [] }) (fun _ _ _ _ _ _ h _ _ => h)
        ?assign ?body ?done ?stop
      case assign =>
        rintro l pre y W K' hU hK'
        have HK9 := kide hK'
        have HU := kide hU
        clear hK' hU
        gi_wp2
        exact HK9.out _ _ (KeepsFrom.refl _ _) (KpF.refl _ _ _ _ _ _) HU.out ⟨_, _, _, _, _, _, _, _, _, _, _, _, _, _, _, _, _, _, _, _, _, _, rfl⟩
      case body =>
        rintro l pre y a' W hl hrec ⟨rfl, hF, hX⟩ ⟨v10, v11, v12, v13, v14, v15, v16, v17, v18, v19, v20, v21, v22, v23, v24, v25, v26, v27, v28, v29, v30, v31, rfl⟩ hpN
        have HF := kide hF
        have HX := kide hX
        have d1 := hF.bx.cell 0
        have d2 := hF.pt.px.cell 3
        have d3 := hX.cell 0
        have d4 := hF.pt.row.cellO (i := k) (by rw [lsOf_len]; exact hkn)
        have d5 := hF.pt.row.frozO k
        simp at d1 d2 d3
        clear hF hX
        gi_wp2
        apply wpIn_at
        · gi_region
          all_goals exact ⟨rfl, rfl, rfl⟩
        gi_wp2
        exact ⟨((KeepsOthers.drew W).trans (KeepsOthers.setCell _ _ _)).from _, rfl, y, rfl, (HF.out.later ((Below.refl _ _).drew)).put hkn _⟩
      case done =>
        rintro D xs W hD hS ⟨hn9, -⟩ hdf
        rw [hn9] at hS
        have h9 := frT_all M h0M (xo k) (bd k) (flF (fwP ks xo bd) σ k)
        rw [← hS] at h9
        exact absurd (HFW.out.1.trans h9.symm) HFW.out.2
      case stop =>
        rintro D c pre W hD ⟨j, hj, hpre⟩ ⟨rfl, y, rfl, hF⟩ hdf
        obtain ⟨rest, hrest⟩ := frT_pre M h0M (xo k) (bd k) (flF (fwP ks xo bd) σ k) hj
        rw [← hpre] at hrest
        have hstep : flF (fwP ks xo bd) σ (k + 1) = upd (flF (fwP ks xo bd) σ k) k ((y : Nat) : Int) := by
          rw [show flF (fwP ks xo bd) σ (k + 1) = _ from if_pos hno, HFW.out.1, hrest]
          rfl
        rw [← hstep] at hF
        have NF : Hid (Ft w0 P0 H K (some ⟨b, o, none⟩) n vc nv g cp nr vis most ov mv cr xo bd w.heap.size (D :: Ds) (flF (fwP ks xo bd) σ (k + 1)) W) := ⟨hF.pt, hF.bx, fun E hE => by
          rcases List.mem_cons.1 hE with rfl | hE
          · exact ⟨by omega, hdf⟩
          · exact hF.ds E hE⟩
        have NN : Hid ((D :: Ds).Nodup) := List.nodup_cons.2 ⟨fun h9 => by have := hDU D h9; omega, HND.out⟩
        clear hF hdf hstep hrest hpre
        have hkw := HKW.out
        gi_wp2
        refine ⟨⟨k + 1, D :: Ds, _, _, _, _, _, _, _, _, _, _, _, _, _, _, _, _, _, _, _, _, _, _, _, _, by omega, rfl, NN.out, NF.out⟩, ?_⟩
        simp [intOf]
        omega
    · have hsk : flF (fwP ks xo bd) σ (k + 1) = flF (fwP ks xo bd) σ k := if_neg hno
      have hF2 := kide (hF1.later (show Below (wr.alloc (Obj.cells #[Value.int .i64 (k : Int)] 3)).heap.size (wr.alloc (Obj.cells #[Value.int .i64 (k : Int)] 3)) (wr.alloc (Obj.cells #[Value.int .i64 (k : Int)] 3)).drew from (Below.refl _ _).drew))
      rw [← hsk] at hF2
      have hne : (flF (fwP ks xo bd) σ k k == -1) = false := by simp; exact hno
      clear hsk
      generalize flF (fwP ks xo bd) σ k k = wk at *
      clear hF1
      gi_wp2
      apply wpIn_at
      · gi_region
        all_goals exact ⟨rfl, rfl, rfl⟩
      have hkw := HKW.out
      gi_wp2
      refine ⟨⟨k + 1, Ds, _, _, _, _, _, _, _, _, _, _, _, _, _, _, _, _, _, _, _, _, _, _, _, _, by omega, rfl, HND.out, hF2.out⟩, ?_⟩
      simp [intOf]
      omega
  · have e9 : k = n := by omega
    subst e9
    gi_wp2
    refine leaves_mrk (fun u => Pt w0 u P0 H K (some ⟨b, o, none⟩) k vc nv (.slice (some ⟨g, 0, none⟩) k cp) nr (lsOf (flF (fwP ks xo bd) σ k) k) vis most ov mv cr xo bd) w.heap.size (fun u D hD hd hq => ?_) (fun u hq => ⟨_, results_none rfl _ _ _, rfl, hq⟩) Ds wr hnd hF.ds hF.pt
    exact hq.own (row := some D) (grownBy_putObj' u D _) (fun r e => by cases e; exact ⟨by omega, _, hd, rfl⟩)

end Go.Proofs.Ythoiajpbpoglfaa
