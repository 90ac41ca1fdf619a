/- The last join of a grove undone. -/
import Derived.Test.YtelndjdbfapahaaGG
import Derived.Test.YtelndjdbfapahaaHH
namespace Go.Proofs.Ytelndjdbfapahaa
set_option linter.unusedVariables false
set_option linter.unusedSimpArgs false
open Go.RowKit

theorem kfrozH {W w1 : World} (hb : Below W.heap.size W w1) (b o : Nat) (h : b < W.heap.size) : w1.frozen? ⟨b, o, none⟩ = W.frozen? ⟨b, o, none⟩ := hb.frozen (p := ⟨b, o, none⟩) h

theorem size_any (G gi k c : Nat) (a : Option Addr) (w : World) (hk : k ≤ 1048576) (h : w.cell? ⟨G, 1, none⟩ = some (.slice a k c)) :
    Calls Try.prog 55 #[Value.pointer (some ⟨G, 1, none⟩)] w fun e w' => e = .returned (.int .i64 (k : Int)) ∧ w' = w := by
  go_enter Try.func55, Try.ntmps55
  go_wp2_with fail
  go_ret
  exact ⟨rfl, rfl⟩

theorem top_any (G gi k j c : Nat) (w : World) (h : w.cell? ⟨G, 1, none⟩ = some (.slice (some ⟨gi, 0, none⟩) k c)) (hj : (k : Int) - 1 = (j : Int)) (hw : IntKind.i64.wrap (j : Int) = (j : Int)) (hl : (j : Int) < (k : Int)) :
    Calls Try.prog 68 #[Value.pointer (some ⟨G, 1, none⟩)] w fun e w' => e = .returned (Value.pointer (some ⟨gi, j, none⟩)) ∧ Below w.heap.size w w' := by
  go_enter Try.func68, Try.ntmps68
  go_wp2_with fail
  first
    | (go_ret
       exact ⟨rfl, Below.refl _ _⟩)
    | (go_quiet (fail)
       go_wp2_with fail
       go_ret
       exact ⟨rfl, below_drewN (Below.refl _ _) _⟩)

theorem pop_any (G gi k j c : Nat) (w : World) (h : w.cell? ⟨G, 1, none⟩ = some (.slice (some ⟨gi, 0, none⟩) k c)) (hf : w.frozen? ⟨G, 1, none⟩ = false) (hj : (k : Int) - 1 = (j : Int)) (hw : IntKind.i64.wrap (j : Int) = (j : Int)) (hl : j ≤ c) :
    Calls Try.prog 69 #[Value.pointer (some ⟨G, 1, none⟩)] w fun e w' => e = .returned (.tuple #[]) ∧ ∃ u, Below w.heap.size w u ∧ w' = u.setCell ⟨G, 1, none⟩ (.slice (some ⟨gi, 0, none⟩) j c) := by
  have i1 : (j : Int) ≤ (c : Int) := by omega
  go_enter Try.func69, Try.ntmps69
  go_wp2_with fail
  refine wp_region_x (SA := fun u => u.cell? ⟨G, 1, none⟩ = some (Value.slice (some ⟨gi, 0, none⟩) k c)) (SB := fun _ => True) (k := 14) (by kernel_rfl) ?_
  have hb0 : Hid (Below w.heap.size w w.drew) := (Below.refl _ _).drew
  have hs0 : Hid ((fun u => u.cell? ⟨G, 1, none⟩ = some (Value.slice (some ⟨gi, 0, none⟩) k c)) w.drew) := h
  have hf0 : Hid (w.drew.frozen? ⟨G, 1, none⟩ = false) := hf
  clear h hf
  generalize w.drew = u0 at *
  try go_simp
  refine wpAnyX_both (T := fun _ => True) (i := 0) (v := Value.pointer (some ⟨G, 1, none⟩)) rfl (by kernel_rfl) (by kernel_rfl) (by kernel_rfl) (fun _ _ _ h => h) (by decide) (fun _ _ => trivial) (fun _ _ => trivial) (Sx.before (by kernel_rfl) hs0.out) (Or.inl ⟨by rfl, fun u hu => by go_simp⟩) ?_
  try go_simp
  refine wpAnyX_both (T := fun _ => True) (i := 1) (v := Value.pointer (some ⟨G, 1, none⟩)) rfl (by kernel_rfl) (by kernel_rfl) (by kernel_rfl) (fun _ _ _ h => h) (by decide) (fun _ _ => trivial) (fun _ _ => trivial) (Sx.before (by kernel_rfl) hs0.out) (Or.inl ⟨by rfl, fun u hu => by go_simp⟩) ?_
  try go_simp
  refine wpAnyX_both (T := fun _ => True) (i := 2) (v := Value.pointer (some ⟨G, 1, none⟩)) rfl (by kernel_rfl) (by kernel_rfl) (by kernel_rfl) (fun _ _ _ h => h) (by decide) (fun _ _ => trivial) (fun _ _ => trivial) (Sx.before (by kernel_rfl) hs0.out) (Or.inl ⟨by rfl, fun u hu => by go_simp⟩) ?_
  try go_simp
  refine wpAnyX_both (T := fun _ => True) (i := 3) (v := Value.pointer (some ⟨G, 1, none⟩)) rfl (by kernel_rfl) (by kernel_rfl) (by kernel_rfl) (fun _ _ _ h => h) (by decide) (fun _ _ => trivial) (fun _ _ => trivial) (Sx.before (by kernel_rfl) hs0.out) (Or.inl ⟨by rfl, fun u hu => by go_simp⟩) ?_
  try go_simp
  refine wpAnyX_take (i := 4) (v := Value.slice (some ⟨gi, 0, none⟩) k c) rfl (by kernel_rfl) (by kernel_rfl) (by kernel_rfl) (fun _ _ _ h => h) (by decide) (by kernel_rfl) (by kernel_rfl) hs0.out (Or.inl ⟨by rfl, fun u hu => by have e1 := hu; go_simp⟩) ?_
  try go_simp
  refine wpAnyX_both (T := fun _ => True) (i := 5) (v := Value.pointer (some ⟨G, 1, none⟩)) rfl (by kernel_rfl) (by kernel_rfl) (by kernel_rfl) (fun _ _ _ h => h) (by decide) (fun _ _ => trivial) (fun _ _ => trivial) (Sx.before (by kernel_rfl) hs0.out) (Or.inl ⟨by rfl, fun u hu => by go_simp⟩) ?_
  try go_simp
  refine wpAnyX_both (T := fun _ => True) (i := 6) (v := Value.pointer (some ⟨G, 1, none⟩)) rfl (by kernel_rfl) (by kernel_rfl) (by kernel_rfl) (fun _ _ _ h => h) (by decide) (fun _ _ => trivial) (fun _ _ => trivial) (Sx.before (by kernel_rfl) hs0.out) (Or.inl ⟨by rfl, fun u hu => by go_simp⟩) ?_
  try go_simp
  refine wpAnyX_both (T := fun _ => True) (i := 7) (v := Value.pointer (some ⟨G, 1, none⟩)) rfl (by kernel_rfl) (by kernel_rfl) (by kernel_rfl) (fun _ _ _ h => h) (by decide) (fun _ _ => trivial) (fun _ _ => trivial) (Sx.before (by kernel_rfl) hs0.out) (Or.inl ⟨by rfl, fun u hu => by go_simp⟩) ?_
  try go_simp
  refine wpAnyX_take (i := 8) (v := Value.slice (some ⟨gi, 0, none⟩) k c) rfl (by kernel_rfl) (by kernel_rfl) (by kernel_rfl) (fun _ _ _ h => h) (by decide) (by kernel_rfl) (by kernel_rfl) hs0.out (Or.inl ⟨by rfl, fun u hu => by have e1 := hu; go_simp⟩) ?_
  try go_simp
  refine wpAnyX_both (T := fun _ => True) (i := 9) (v := Value.int .i64 (k : Int)) rfl (by kernel_rfl) (by kernel_rfl) (by kernel_rfl) (fun _ _ _ h => h) (by decide) (fun _ _ => trivial) (fun _ _ => trivial) (Sx.before (by kernel_rfl) hs0.out) (Or.inl ⟨by rfl, fun u hu => by go_simp⟩) ?_
  try go_simp
  refine wpAnyX_both (T := fun _ => True) (i := 10) (v := Value.int .i64 (j : Int)) rfl (by kernel_rfl) (by kernel_rfl) (by kernel_rfl) (fun _ _ _ h => h) (by decide) (fun _ _ => trivial) (fun _ _ => trivial) (Sx.before (by kernel_rfl) hs0.out) (Or.inl ⟨by rfl, fun u hu => by go_simp⟩) ?_
  try go_simp
  refine wpAnyX_both (T := fun _ => True) (i := 11) (v := Value.slice (some ⟨gi, 0, none⟩) j c) rfl (by kernel_rfl) (by kernel_rfl) (by kernel_rfl) (fun _ _ _ h => h) (by decide) (fun _ _ => trivial) (fun _ _ => trivial) (Sx.before (by kernel_rfl) hs0.out) (Or.inl ⟨by rfl, fun u hu => by go_simp⟩) ?_
  try go_simp
  refine wpAnyX_both (T := fun _ => True) (i := 12) (v := Value.pointer (some ⟨G, 1, none⟩)) rfl (by kernel_rfl) (by kernel_rfl) (by kernel_rfl) (fun _ _ _ h => h) (by decide) (fun _ _ => trivial) (fun _ _ => trivial) (Sx.before (by kernel_rfl) hs0.out) (Or.inl ⟨by rfl, fun u hu => by go_simp⟩) ?_
  try go_simp
  refine wpAnyX_both (T := fun _ => True) (i := 13) (v := Value.pointer (some ⟨G, 1, none⟩)) rfl (by kernel_rfl) (by kernel_rfl) (by kernel_rfl) (fun _ _ _ h => h) (by decide) (fun _ _ => trivial) (fun _ _ => trivial) (Sx.before (by kernel_rfl) hs0.out) (Or.inl ⟨by rfl, fun u hu => by go_simp⟩) ?_
  try go_simp
  refine wpAnyX_ready (rs := [14]) (by kernel_rfl) (by simp) (AllX.cons rfl (fun K hK => ?_) AllX.nil)
  have e9 := hs0.out
  have f9 := hf0.out
  go_simp
  refine hK _ _ (Sx.behind (by kernel_rfl) trivial) ?_
  clear hK K
  clear e9 f9
  try go_simp
  refine wpAnyX_done (by kernel_rfl) ?_ _
  skip
  go_wp2_with fail
  first | go_end0 | go_ret
  exact ⟨rfl, u0, hb0.out, rfl⟩

theorem getLast_split {α : Type} {xs : List α} {n : Nat} (h : xs.length = n + 1) : ∃ ys y, xs = ys ++ [y] ∧ ys.length = n := by
  refine ⟨xs.take n, xs[n]'(by omega), ?_, by simp; omega⟩
  have : xs = xs.take (n + 1) := by rw [List.take_of_length_le (by omega)]
  rw [List.take_add_one, List.getElem?_eq_getElem (by omega)] at this
  simpa using this

set_option maxHeartbeats 1000000 in
set_option maxRecDepth 100000 in
theorem undo_any {w : World} {B G M : Nat} {s : Gs} {ls : List Lk} {l : Lk} (h : Gv w B G M s) (hN : Nl s) (hc : Cl w s) (hd : Dg s) (hls : s.ls = ls ++ [l]) (hne : l.1.toNat ≠ l.2.1.toNat) (hM : M ≤ 1048577) (hl : s.ls.length ≤ 1048576) :
    Calls Try.prog 56 #[Value.pointer (some ⟨G, 0, none⟩)] w fun e w' => e = .returned (.tuple #[]) ∧ ∃ s', Gv w' B G M s' ∧ Nl s' ∧ Cl w' s' ∧ Dg s' ∧ s'.ls = ls ∧ s'.ps = s.ps ∧ Below B w w' := by
  obtain ⟨ts, t, hts, htl⟩ := getLast_split (xs := s.ts) (n := ls.length) (by rw [hN.n, hls]; simp)
  obtain ⟨k, hk⟩ : ∃ k, ls.length = k := ⟨_, rfl⟩
  have hsl : s.ts.length = k + 1 := by rw [hts, List.length_append, htl, hk]; rfl
  have hir := h.ir
  rw [hsl] at hir
  obtain ⟨gi, ci, ei, hci, hcm, hsh⟩ := own_short hir rfl
  have htm : (s.ts.map pt).take k = ts.map pt := by
    rw [hts, List.map_append, List.take_append_of_le_length (by simp; omega), List.take_of_length_le (by simp; omega)]
  rw [htm] at hsh
  have hgic : w.cell? ⟨gi, k, none⟩ = some (Value.pointer (some ⟨t, 0, none⟩)) := by
    have hcells := World.ownsRow.cells hir (g := gi) (by rw [ei]; rfl) k (pt t) (by rw [hts, List.map_append, List.getElem?_append_right (by simp; omega)]; simp [htl, hk])
    rw [Addr.add_lit] at hcells
    simpa [pt] using hcells
  have hclo := hc k t l (by rw [hts, List.getElem?_append_right (by omega)]; simp [htl, hk]) (by rw [hls, List.getElem?_append_right (by omega)]; simp [hk])
  obtain ⟨n, hn⟩ : ∃ n, k + 1 = n := ⟨_, rfl⟩
  rw [hn] at ei hci
  have g1 : w.cell? ⟨G, 1, none⟩ = some (.slice (some ⟨gi, 0, none⟩) n ci) := by rw [cell_of h.gb, ← ei, ← hN.i]; rfl
  have f1 : w.frozen? ⟨G, 1, none⟩ = false := frozen_of_row w G 1 _ _ h.gb
  have iA : (n : Int) - 1 = (k : Int) := by omega
  have hkb : k ≤ 1048576 := by rw [hls] at hl; simp at hl; omega
  have wA : IntKind.i64.wrap (k : Int) = (k : Int) := by rw [IntKind.wrap_i64]; omega
  have iL : (k : Int) < (n : Int) := by omega
  have hle : k ≤ ci := by omega
  have HTOP := kide (top_any G gi n k ci w g1 iA wA iL)
  have HPOP := kide (fun u (hu : Below w.heap.size w u) => pop_any G gi n k ci u (by rw [kcell hu G 1 (lt_of_block h.gb)]; exact g1) (by rw [kfrozH hu G 1 (lt_of_block h.gb)]; exact f1) iA wA hle)
  have HG := kide h
  have HNL := kide hN
  have HC := kide hc
  have HD := kide hd
  have HLS := kide hls
  have HTS := kide hts
  have HSH := kide hsh
  have HEI := kide ei
  have HCLO := kide hclo
  have HK := kide hk
  have HTL := kide htl
  have hlg : gi < w.heap.size := block_lt_of_cell hgic
  have hx : ∃ f, Bx w t #[Value.pointer (some ⟨s.ps.getD l.1.toNat 0, 0, none⟩), Value.pointer (some ⟨s.ps.getD l.2.1.toNat 0, 0, none⟩), .int .i64 l.2.2, f] 97 := by
    obtain ⟨-, f, hf⟩ := h.ti k t l (by rw [hts, List.getElem?_append_right (by omega)]; simp [htl, hk]) (by rw [hls, List.getElem?_append_right (by omega)]; simp [hk])
    exact ⟨f, hf⟩
  clear h hN hc hd hls hts hsh ei hclo hir htm g1 f1 hk htl hsl hx
  go_enter Try.func56, Try.ntmps56
  go_wp2_with fail
  refine Calls.mono HTOP.out ?_
  rintro e w1 ⟨rfl, hb1⟩
  have q1 : w1.cell? ⟨gi, k, none⟩ = some (Value.pointer (some ⟨t, 0, none⟩)) := by rw [kcell hb1 gi k hlg]; exact hgic
  have HB1 := kide hb1
  clear hb1 hgic
  go_wp2_with fail
  refine Calls.mono (HPOP.out w1 HB1.out) ?_
  rintro e w2 ⟨rfl, u, hbu, hw2⟩
  have HBU : Hid (Below w.heap.size w u) := HB1.out.trans (hbu.mono HB1.out.size)
  have HGu := kide (HG.out.later HBU.out)
  have HCu := kide (HC.out.kept (Kt.of_below HBU.out))
  have HSu := kide (own_later HSH.out HBU.out)
  have HGp : Hid (Gv w2 B G M { s with ic := .slice (some ⟨gi, 0, none⟩) k ci, iv := .slice (some ⟨gi, 0, none⟩) k ci, ts := ts, ls := ls }) := by
    rw [hw2]
    refine HGu.out.popped HTS.out HLS.out HTL.out ?_ (by rw [HEI.out]; rfl)
    rw [HTL.out, HK.out]
    exact HSu.out
  have HKp : Hid (Kt u w2) := by
    show Kt u w2
    rw [hw2]
    exact (Kt.refl u).set HGu.out.gb (.inr rfl) _
  have HBp : Hid (Below B w w2) := by
    show Below B w w2
    rw [hw2]
    exact (HBU.out.mono (by have := HG.out.lo; have := lt_of_block HG.out.gb; omega)).setCell HG.out.lo _
  have HKw : Hid (Kt w w2) := (Kt.of_below HBU.out).trans HKp.out
  obtain ⟨ro, ru, po, pu, pa, pb, o9, o10, o11, o12, A0, A1, sz, le, h1, h2, h3, h4, b1, b2, b3, b4, b5, b6, b7⟩ := HCLO.out.kept HKw.out
  have hda := HD.out l.1.toNat
  have hdb := HD.out l.2.1.toNat
  rw [HLS.out, deg_append] at hda hdb
  simp only [deg, if_pos, if_neg hne, if_neg (Ne.symm hne)] at hda hdb
  obtain ⟨ka, hka⟩ : ∃ ka, lenV (s.tv l.1.toNat) = ka + 1 := ⟨lenV (s.tv l.1.toNat) - 1, by omega⟩
  obtain ⟨kb, hkb2⟩ : ∃ kb, lenV (s.tv l.2.1.toNat) = kb + 1 := ⟨lenV (s.tv l.2.1.toNat) - 1, by omega⟩
  have HJ1 := kide (join1_any HGp.out (fun j => HNL.out.t j) ro ru po pu l.1.toNat l.2.1.toNat pa pb o9 o10 o11 o12 A0 A1 sz le h1 h2 h3 h4 hne b2 b3 b4 b5 b6 b7 ka kb hka hkb2 hM)
  have c0 := b1.cell 3
  simp at c0
  have XT := kide b1
  clear q1 hbu hw2 h1 h2 h3 h4 b1 b2 b3 b4 b5 b6 b7 hda hdb HPOP HTOP
  go_wp2_with fail
  refine Calls.mono HJ1.out ?_
  rintro e w3 ⟨rfl, s3, hg3, e1, e2, e3, e4, e5, e6, e7, e8, e9, hk3, hb3⟩
  have HG3 := kide hg3
  have HKE : Hid (Kt w w3) := HKw.out.trans hk3
  have HBE : Hid (Below B w w3) := HBp.out.trans hb3
  have hNE : Hid (Nl s3) := ⟨by rw [e4, e5]; exact HNL.out.k, by rw [e6, e7], e8, by rw [e2, e3]; exact HTL.out⟩
  have hCE : Hid (Cl w3 s3) := fun j t' l' h1 h2 => by
    rw [e2] at h1
    rw [e3] at h2
    rw [e1]
    have k1 := (List.getElem?_eq_some_iff.1 (show ts[j]? = some t' from h1)).1
    have k2 := (List.getElem?_eq_some_iff.1 (show ls[j]? = some l' from h2)).1
    exact (HC.out j t' l' (by rw [HTS.out, List.getElem?_append_left k1]; exact h1) (by rw [HLS.out, List.getElem?_append_left k2]; exact h2)).kept HKE.out
  have hDE : Hid (Dg s3) := fun j => by
    have q := e9 j
    have r := HD.out j
    rw [HLS.out, deg_append] at r
    have f : ∀ x : Nat, (if x = j then 1 else 0) = (if j = x then 1 else 0) := fun x => by
      by_cases q : x = j
      · rw [if_pos q, if_pos q.symm]
      · rw [if_neg q, if_neg (Ne.symm q)]
    simp only [deg, f] at r
    rw [e3]
    have q' : lenV (s3.tv j) + ((if j = l.1.toNat then 1 else 0) + (if j = l.2.1.toNat then 1 else 0)) = lenV (s.tv j) := q
    show lenV (s3.tv j) = deg j ls
    omega
  have hLE : Hid (s3.ls = ls) := e3
  have hPE : Hid (s3.ps = s.ps) := e1
  clear hg3 e1 e2 e3 e4 e5 e6 e7 e8 e9 hk3 hb3
  go_wp2_with fail
  go_end0
  exact ⟨rfl, s3, HG3.out, hNE.out, hCE.out, hDE.out, hLE.out, hPE.out, HBE.out⟩

end Go.Proofs.Ytelndjdbfapahaa
