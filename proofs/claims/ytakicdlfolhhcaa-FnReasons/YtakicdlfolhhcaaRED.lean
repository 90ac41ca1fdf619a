/- The ways from a knot, as the program looks for them. -/
import Derived.Test.YtakicdlfolhhcaaREC
import Derived.Test.YtakicdlfolhhcaaGG
import Derived.Handy
import Derived.Lib.Builder
namespace Go.Proofs.Ytakicdlfolhhcaa
set_option linter.unusedVariables false
set_option linter.unusedSimpArgs false
open Go.RowKit

def cv (ts : List Nat) : Option Nat → Value
  | none => .pointer none
  | some k => .pointer (some ⟨ts.getD k 0, 0, none⟩)
def cmA (ts : List Nat) (came : Nat → Option Nat) (n : Nat) : Array Value := ((List.range n).map fun i => cv ts (came i)).toArray
theorem cmA_size (ts : List Nat) (came : Nat → Option Nat) (n : Nat) : (cmA ts came n).size = n := by simp [cmA]
theorem cmA_get (ts : List Nat) (came : Nat → Option Nat) {n i : Nat} (h : i < n) : (cmA ts came n)[i]? = some (cv ts (came i)) := by simp [cmA, h]
theorem cmA_set (ts : List Nat) (came : Nat → Option Nat) {n v : Nat} (t : Nat) : (cmA ts came n).setIfInBounds v (.pointer (some ⟨ts.getD t 0, 0, none⟩)) = cmA ts (setC came v t) n := by
  apply Array.ext_getElem?
  intro i
  by_cases hi : i < n
  · rw [Array.getElem?_setIfInBounds, cmA_get ts (setC came v t) hi, cmA_size]
    by_cases e : v = i
    · subst e
      rw [if_pos rfl, if_pos hi]
      simp [setC, cv]
    · rw [if_neg e, cmA_get ts came hi]
      have : setC came v t i = came i := by unfold setC; rw [if_neg (Ne.symm e)]
      rw [this]
  · rw [Array.getElem?_setIfInBounds, cmA_size]
    have h1 : (cmA ts came n)[i]? = none := by simp [cmA, hi]
    have h2 : (cmA ts (setC came v t) n)[i]? = none := by simp [cmA, hi]
    rw [h1, h2]
    split
    · rename_i e
      rw [if_neg (by omega)]
    · rfl
theorem cmA_made (ts : List Nat) (n : Nat) : madeCells #[Value.pointer none] n = cmA ts (fun _ => none) n := by
  unfold madeCells cmA
  apply Array.ext_getElem?
  intro i
  by_cases hi : i < n
  · simp [cv, hi]
    rw [show i % 1 = 0 by omega]
    rfl
  · simp [hi]

theorem Try.infoTie : (Try.prog.info? 97).map (fun i => i.size) = some 4 := by kernel_rfl

theorem Gv.tinj {w : World} {B G M n k k' t : Nat} {s : Gs} {L : Nat → Nat} {l l' : Lk} (h : Gv w B G M s) (hg : goF n id s.ls = some L) (hps : s.ps.length = n) (h1 : s.ts[k]? = some t) (h2 : s.ts[k']? = some t) (hl : s.ls[k]? = some l) (hl' : s.ls[k']? = some l') : k = k' := by
  obtain ⟨-, f, e⟩ := h.ti k t l h1 hl
  obtain ⟨-, f', e'⟩ := h.ti k' t l' h2 hl'
  rw [e] at e'
  simp only [Option.some.injEq, Obj.cells.injEq, and_true, Array.mk.injEq, List.cons.injEq, pt, Value.pointer.injEq, Addr.mk.injEq, true_and] at e'
  obtain ⟨e1, e2, -⟩ := e'
  have rng : ∀ (i : Nat) (m : Lk), s.ls[i]? = some m → m.1.toNat < n ∧ m.2.1.toNat < n := fun i m hm => by
    obtain ⟨L', -, hok, -⟩ := goF_at hg hm
    obtain ⟨q1, q2, -⟩ := lkOk_iff.1 hok
    omega
  have one : ∀ x y, x < n → y < n → s.ps.getD x 0 = s.ps.getD y 0 → x = y := fun x y hx hy e => by
    have gx := List.getElem?_eq_getElem (show x < s.ps.length by omega)
    have gy := List.getElem?_eq_getElem (show y < s.ps.length by omega)
    rw [List.getD, List.getD, gx, gy] at e
    simp only [Option.getD_some] at e
    rw [← e] at gy
    exact h.inj gx gy
  have q1 := one _ _ (rng k l hl).1 (rng k' l' hl').1 e1
  have q2 := one _ _ (rng k l hl).2 (rng k' l' hl').2 e2
  by_cases hk : k = k'
  · exact hk
  · obtain ⟨S, s1, s2⟩ := goF_cut hg k l hl
    have := s2 k' l' hl' (Ne.symm hk)
    rw [← q1, ← q2] at this
    exact absurd this s1

/-- A tie held against what a cell of the ways tells. -/
theorem tie_neq {w : World} {B G M n k tb : Nat} {s : Gs} {L : Nat → Nat} {l : Lk} (h : Gv w B G M s) (hg : goF n id s.ls = some L) (hps : s.ps.length = n) (hn : s.ts.length = s.ls.length) (h1 : s.ts[k]? = some tb) (hl : s.ls[k]? = some l) (c : Option Nat) (hc : ∀ j, c = some j → j < s.ls.length) :
    (binOp .neq 85 (.pointer (some ⟨tb, 0, none⟩)) (cv s.ts c)).run Try.prog w = .ok (.bool (decide (c ≠ some k))) w := by
  cases hk : Try.prog.info? 97 with
  | none => have := Try.infoTie; rw [hk] at this; cases this
  | some ki =>
    have hs := Try.infoTie
    rw [hk] at hs
    simp at hs
    cases c with
    | none =>
      simp only [cv]
      have hq := run_neq_pointer_nil (P := Try.prog) w 85 (some ⟨tb, 0, none⟩) (by rw [Try.underlying85]; kernel_rfl)
      rw [hq]
      simp
    | some j =>
      have hj := hc j rfl
      have gj := List.getElem?_eq_getElem (show j < s.ts.length by omega)
      have lj := List.getElem?_eq_getElem hj
      have ej : s.ts.getD j 0 = s.ts[j] := by rw [List.getD, gj]; rfl
      simp only [cv, ej]
      by_cases e : j = k
      · subst e
        rw [gj] at h1
        cases h1
        rw [Lib.run_neq_ptr_same (P := Try.prog) w _ Try.underlying85 hk]
        simp
      · have hne : tb ≠ s.ts[j] := fun q => e (h.tinj hg hps gj (by rw [← q]; exact h1) lj hl)
        obtain ⟨-, f, b1⟩ := h.ti k tb l h1 hl
        obtain ⟨-, f', b2⟩ := h.ti j _ _ gj lj
        have hd : ∀ d : Nat, (Op.equalIn (d + 1) 85 (.pointer (some ⟨tb, 0, none⟩)) (.pointer (some ⟨s.ts[j], 0, none⟩))).run Try.prog w = .ok false w := fun d => by
          simp [Op.equalIn, run_underlying Try.underlying85, sizeOf, typeInfo, hk, hs, run_sameAddr_other w (a := ⟨tb, 0, none⟩) (b := ⟨s.ts[j], 0, none⟩) (fun q => hne (by injection q)) b1 b2]
        simp only [binOp]
        simp [Op.equal, Op.maxDepth, hd 9999, e]

/-- What is told of each knot's ties. -/
def Ix (s : Gs) (n : Nat) : Prop := ∀ j, j < n → ∃ ix : List Nat, ix.Nodup ∧ s.tl j = ix.map (fun k => s.ts.getD k 0) ∧ ∀ t, t ∈ ix ↔ ∃ u, Ends s.ls t j u

def RetW (s : Gs) (n a : Nat) (w : World) (e : Ending) (w' : World) : Prop := ∃ gc came rk m H, e = .returned (.slice (some ⟨gc, 0, none⟩) n n) ∧ w'.heap[gc]? = some (.cells (cmA s.ts came n) 85 (0, 0)) ∧ w.heap.size ≤ gc ∧ Below w.heap.size w w' ∧ Cw s.ls n a came rk m H [] none

set_option maxHeartbeats 1000000 in
set_option maxRecDepth 100000 in
theorem waysFrom_any {w : World} {B G M n a pa : Nat} {s : Gs} {L : Nat → Nat} (h : Gv w B G M s) (hN : Nl s) (hg : goF n id s.ls = some L) (hps : s.ps.length = n) (hn : n ≤ 1000) (hM : M ≤ 1048576) (hix : Ix s n) (ha : s.ps[a]? = some pa) :
    Calls Try.prog 71 #[.pointer (some ⟨G, 0, none⟩), .pointer (some ⟨pa, 0, none⟩)] w (RetW s n a w) := by
  have hmk := fun kl kc w => run_make_row' (P := Try.prog) 69 85 (.pointer none) 8 Try.underlying69 Try.infoPT rfl kl kc n (by omega) (by omega) w
  obtain ⟨kva, kvc, hkv⟩ : ∃ a c, s.kc = .slice a n c := by
    obtain ⟨a, c, e, -⟩ := h.kform
    exact ⟨a, c, by rw [hN.k, e, hps]⟩
  have q0 : w.cell? ⟨G, 0, none⟩ = some (.slice kva n kvc) := by rw [h.k0, hkv]
  have hal : a < n := by rw [← hps]; exact (List.getElem?_eq_some_iff.1 ha).1
  have HH := kide h
  have HN := kide hN
  have HG := kide hg
  have HPS := kide hps
  have HIX := kide hix
  have HA := kide ha
  clear h hN hg hps hix ha hkv
  obtain ⟨N0, hN0⟩ : ∃ N0, w.heap.size = N0 := ⟨_, rfl⟩
  have HB0 : Hid (Below N0 w ((w.alloc (.cells (madeCells #[Value.pointer none] n) 85)).alloc (.cells #[.slice none 0 0] 110))) := ((Below.refl _ _).alloc (by omega) _).alloc (by simp; omega) _
  have HC0 : Hid (((w.alloc (.cells (madeCells #[Value.pointer none] n) 85)).alloc (.cells #[.slice none 0 0] 110)).heap[N0]? = some (.cells (cmA s.ts (fun _ => none) n) 85 (0, 0))) := by
    show _ = _
    have h1 : Below (N0 + 1) (w.alloc (.cells (madeCells #[Value.pointer none] n) 85)) ((w.alloc (.cells (madeCells #[Value.pointer none] n) 85)).alloc (.cells #[.slice none 0 0] 110)) := (Below.refl _ _).alloc (by simp; omega) _
    rw [h1.block _ (by omega), ← cmA_made s.ts n, ← hN0]
    exact heap_alloc_new _ _
  have HS0 : Hid (Sv ((w.alloc (.cells (madeCells #[Value.pointer none] n) 85)).alloc (.cells #[.slice none 0 0] 110)) N0 (N0 + 1) (.slice none 0 0) []) := by
    refine ⟨by omega, ?_, rfl, .inl ⟨rfl, rfl⟩⟩
    have := heap_alloc_new (w.alloc (.cells (madeCells #[Value.pointer none] n) 85)) (.cells #[.slice none 0 0] 110)
    rw [World.size_alloc, hN0] at this
    exact this
  go_enter Try.func71, Try.ntmps71
  go_wp2_with fail
  generalize (w.alloc (.cells (madeCells #[Value.pointer none] n) 85)).alloc (.cells #[.slice none 0 0] 110) = w1 at *
  refine Calls.mono (pushK_any HS0.out (by simp)) ?_
  rintro e w2 ⟨rfl, ⟨v2, hs2⟩, hb2, hk2⟩
  have HS2 := kide hs2
  have HB2 := kide (HB0.out.trans hb2)
  have HC2 := kide (hk2 _ _ _ HC0.out (by decide) (by decide))
  have HN0 := kide hN0
  clear hs2 hb2 hk2 HS0 HB0 HC0 q0 hmk hN0
  go_wp2_with fail
  have P0 : Hid (2 * und (fun _ => none) a n + [a].length ≤ 2 * n + 1) := by
    have := und_le (fun _ => none) a n
    show _ ≤ _
    simp
    omega
  have e2 : [pa] = [a].map (fun k => s.ps.getD k 0) := by simp [HA.out]
  rw [List.nil_append, e2] at HS2
  clear e2
  go_loopg [] (2 * n + 1) (fun g wr => ∃ came rk m H op vk, Cw s.ls n a came rk m H op none ∧ Sv wr N0 (N0 + 1) vk (op.map (fun k => s.ps.getD k 0)) ∧ Below N0 w wr ∧ wr.heap[N0]? = some (.cells (cmA s.ts came n) 85 (0, 0)) ∧ 2 * und came a n + op.length ≤ g ∧ und came a n + op.length ≤ n)
  case atStart => exact ⟨_, _, _, _, _, _, Cw.start s.ls hal, HS2.out, HB2.out, HC2.out, P0.out, und_lt _ n hal⟩
  case round =>
    obtain ⟨came, rk, m, H, op, vk, hcw, hsv, hbw, hcr, hmu, hmn⟩ := hrel
    have HCW := kide hcw
    have HSV := kide hsv
    have HBW := kide hbw
    have HCR := kide hcr
    have HMU := kide hmu
    clear HS2 HB2 HC2 P0 hcw hbw hcr hmu
    rcases List.eq_nil_or_concat op with rfl | ⟨op', k, rfl⟩
    rotate_left
    rw [List.concat_eq_append] at HCW hsv HSV HMU hmn
    rotate_left
    · obtain ⟨az, cz, ez⟩ : ∃ az cz, vk = .slice az 0 cz := by
        rcases hsv.row.2 with ⟨e, -⟩ | ⟨g, cap, cur, e, -⟩
        · exact ⟨_, _, e⟩
        · exact ⟨_, _, e⟩
      have z0 : wr.cell? ⟨N0 + 1, 0, none⟩ = some (.slice az 0 cz) := by rw [cell_of hsv.bx, ez]; rfl
      have HSZ := kide (sizeK_any (N0 + 1) 0 0 cz az wr (by omega) z0)
      clear hsv z0
      go_wp2_with fail
      refine Calls.mono HSZ.out ?_
      rintro e w3 ⟨rfl, hw3⟩
      obtain rfl := hw3.symm
      go_wp2_with fail
      go_ret
      exact ⟨N0, came, rk, m, H, rfl, HCR.out, by rw [HN0.out]; exact Nat.le_refl _, by rw [HN0.out]; exact HBW.out, HCW.out⟩
    · obtain ⟨j, hj⟩ : ∃ j, op'.length = j := ⟨_, rfl⟩
      have hjn : j < n := by rw [List.length_append] at hmn; simp at hmn; omega
      have HMN := kide hmn
      have hrow := hsv.row
      rw [show ((op' ++ [k]).map (fun k => s.ps.getD k 0)).length = j + 1 by simp [hj]] at hrow
      obtain ⟨gi, ci, ev, hci, hsh⟩ := own_short' hrow
      have htk : ((List.map pt (List.map (fun k => s.ps.getD k 0) (op' ++ [k]))).take j) = List.map pt (List.map (fun k => s.ps.getD k 0) op') := by
        rw [List.map_append, List.map_append, List.take_append_of_le_length (by simp [hj]), List.take_of_length_le (by simp [hj])]
      rw [htk] at hsh
      have z0 : wr.cell? ⟨N0 + 1, 0, none⟩ = some (.slice (some ⟨gi, 0, none⟩) (j + 1) ci) := by rw [cell_of hsv.bx, ev]; rfl
      have zf : wr.frozen? ⟨N0 + 1, 0, none⟩ = false := frozen_of_row wr (N0 + 1) 0 _ _ hsv.bx
      have hkn : k < n := by
        rcases (HCW.out.k4 k (by simp)).1 with e | e
        · rw [e]; exact hal
        · cases q : came k with
          | none => exact absurd q e
          | some t => exact HCW.out.lt k t q
      obtain ⟨pk, hpk⟩ : ∃ pk, s.ps[k]? = some pk := ⟨_, List.getElem?_eq_getElem (show k < s.ps.length by rw [HPS.out]; exact hkn)⟩
      have zt : wr.cell? ⟨gi, j, none⟩ = some (.pointer (some ⟨pk, 0, none⟩)) := by
        have hcells := World.ownsRow.cells hrow (g := gi) (by rw [ev]; rfl) j (pt pk) (by
          rw [List.map_append, List.map_append, List.getElem?_append_right (by simp [hj])]
          simp [hj, hpk])
        rw [Addr.add_lit] at hcells
        simpa [pt] using hcells
      obtain ⟨jn, hjn1⟩ : ∃ jn, j + 1 = jn := ⟨_, rfl⟩
      rw [hjn1] at z0 hci
      have iA : (jn : Int) - 1 = (j : Int) := by omega
      have wA : IntKind.i64.wrap (j : Int) = (j : Int) := by rw [IntKind.wrap_i64]; omega
      have iL : (j : Int) < (jn : Int) := by omega
      have i0 : (jn : Int) > 0 := by omega
      have hle : j ≤ ci := by omega
      have hlb := lt_of_block hsv.bx
      have hlg := block_lt_of_cell zt
      simp only [] at hlg
      have HSZ := kide (sizeK_any (N0 + 1) 0 jn ci (some ⟨gi, 0, none⟩) wr (by omega) z0)
      have HTOP := kide (topK_any (N0 + 1) gi jn j ci wr z0 iA wA iL)
      have HPOP := kide (fun u (hu : Below wr.heap.size wr u) => popK_any (N0 + 1) gi jn j ci u (by rw [kcell hu _ _ hlb]; exact z0) (by rw [kfrozR hu _ _ hlb]; exact zf) iA wA hle)
      obtain ⟨hcw2, hH0⟩ := HCW.out.pop
      have HC3 := kide hcw2
      have HH0 := kide hH0
      have HPK := kide hpk
      have HSH := kide hsh
      have HJ := kide hj
      clear hsv hrow hsh htk hcw2 hH0 hpk hj z0 zf hjn1 iL hle hci HCW hmn
      go_wp2_with fail
      refine Calls.mono HSZ.out ?_
      rintro e w3 ⟨rfl, hw3⟩
      obtain rfl := hw3.symm
      go_wp2_with fail
      refine Calls.mono HTOP.out ?_
      rintro e w4 ⟨rfl, hb4⟩
      have q1 : w4.cell? ⟨gi, j, none⟩ = some (Value.pointer (some ⟨pk, 0, none⟩)) := by rw [kcell hb4 gi j hlg]; exact zt
      have HB4 := kide hb4
      clear hb4 zt
      go_wp2_with fail
      refine Calls.mono (HPOP.out w4 HB4.out) ?_
      rintro e w5 ⟨rfl, u5, hb5, rfl⟩
      have hb45 : Below wr.heap.size wr u5 := HB4.out.trans (hb5.mono HB4.out.size)
      have hbx5 : u5.heap[N0 + 1]? = some (.cells #[vk] 110 (0, 0)) := by rw [hb45.block _ hlb]; exact HSV.out.bx
      have hz0 : N0 ≤ wr.heap.size := by have := HBW.out.size; rw [HN0.out] at this; exact this
      have SV6 : Hid (Sv (u5.setCell ⟨N0 + 1, 0, none⟩ (Value.slice (some ⟨gi, 0, none⟩) j ci)) N0 (N0 + 1) (Value.slice (some ⟨gi, 0, none⟩) j ci) (op'.map (fun k => s.ps.getD k 0))) := by
        refine ⟨by omega, heap_setCell_same u5 (N0 + 1) 0 _ _ _ hbx5, ?_⟩
        have h1 := own_set (o := 0) (own_later HSH.out hb45) hbx5 (by decide) (Value.slice (some ⟨gi, 0, none⟩) j ci)
        rw [List.length_map, HJ.out]
        exact h1
      have BW6 : Hid (Below N0 w (u5.setCell ⟨N0 + 1, 0, none⟩ (Value.slice (some ⟨gi, 0, none⟩) j ci))) := (HBW.out.trans (hb45.mono hz0)).setCell (by simp) _
      have CR6 : Hid ((u5.setCell ⟨N0 + 1, 0, none⟩ (Value.slice (some ⟨gi, 0, none⟩) j ci)).heap[N0]? = some (.cells (cmA s.ts came n) 85 (0, 0))) := by
        show _ = _
        rw [heap_setCell_other _ _ _ _ (by simp), hb45.block _ (lt_of_block HCR.out)]
        exact HCR.out
      clear hb45 hbx5 hb5 q1 HB4 HSH HSV HCR HBW
      generalize u5.setCell ⟨N0 + 1, 0, none⟩ (Value.slice (some ⟨gi, 0, none⟩) j ci) = w6 at *
      obtain ⟨ix, hxd, hxl, hxm⟩ := HIX.out k hkn
      have htr := (HH.out.tr k (by rw [HPS.out]; exact hkn))
      rw [hxl] at htr
      obtain ⟨tn, htn⟩ : ∃ tn, ix.length = tn := ⟨_, rfl⟩
      have htn2 : tn ≤ 1048576 := by have := htr.1; rw [List.length_map, htn] at this; omega
      obtain ⟨ta, tcap, hta, HTC⟩ : ∃ ta tcap, s.tv k = .slice ta tn tcap ∧ Hid (∀ q t, ix[q]? = some t → ∃ g, ta = some ⟨g, 0, none⟩ ∧ g < N0 ∧ w.cell? ⟨g, q, none⟩ = some (.pointer (some ⟨s.ts.getD t 0, 0, none⟩))) := by
        have hrow := htr.2
        have hcells := fun g hg => World.ownsRow.cells hrow (g := g) hg
        rcases hrow.2 with ⟨e, h0⟩ | ⟨g, cap, cur, e, -, hh, -⟩
        · refine ⟨none, 0, by rw [e]; simp at h0; rw [h0] at htn; rw [← htn]; rfl, fun q t hq => ?_⟩
          simp at h0
          rw [h0] at hq
          simp at hq
        · refine ⟨some ⟨g, 0, none⟩, cap, by rw [e, List.length_map, htn], fun q t hq => ⟨g, rfl, by rw [← HN0.out]; exact lt_of_block hh, ?_⟩⟩
          have := hcells g (by rw [e]; rfl) q (.pointer (some ⟨s.ts.getD t 0, 0, none⟩)) (by rw [List.getElem?_map, List.getElem?_map, hq]; rfl)
          rw [Addr.add_lit] at this
          simpa using this
      have hpl : pk < N0 := by rw [← HN0.out]; exact lt_of_block (HH.out.kn k pk HPK.out).2
      have t0 : w6.cell? ⟨pk, 1, none⟩ = some (.slice ta tn tcap) := by
        rw [BW6.out.cell (p := ⟨pk, 1, none⟩) hpl, (HH.out.get HPK.out).2.1, HN.out.t, hta]
      have HXD := kide hxd
      have HXM := kide hxm
      have HTN := kide htn
      have MU6 : Hid (2 * und came a n + op'.length < gk ∧ und came a n + op'.length < n) := by
        have h1 := HMU.out
        have h2 := HMN.out
        simp at h1 h2
        exact ⟨by omega, by omega⟩
      clear hxd hxl hxm htr htn hta HMU HMN
      go_wp2_with fail
      obtain ⟨wo, hwo⟩ : ∃ wo, wo = wr := ⟨_, rfl⟩
      subst hwo
      go_loopw [30] (fun q wr => ∃ (qn : Nat) (came : Nat → Option Nat) (rk : Nat → Nat) (m : Nat) (H : Nat → Nat → Bool) (op : List Nat) (vk : Value), q = .int .i64 (qn : Int) ∧ qn ≤ tn ∧ Cw s.ls n a came rk m H op (some k) ∧ Sv wr N0 (N0 + 1) vk (op.map (fun k => s.ps.getD k 0)) ∧ Below N0 w wr ∧ wr.heap[N0]? = some (.cells (cmA s.ts came n) 85 (0, 0)) ∧ (2 * und came a n + op.length < gk ∧ und came a n + op.length < n) ∧ (∀ t, H k t = true ↔ t ∈ ix.take qn)) (fun q _ => tn - (intOf q).toNat)
      case atStart => exact ⟨0, came, rk, m, H, op', _, rfl, Nat.zero_le _, HC3.out, SV6.out, BW6.out, CR6.out, MU6.out, fun t => by simp [HH0.out t]⟩
      case round =>
        obtain ⟨qn, came, rk, m, H, op, vk, rfl, hq, hcw, hsv, hbw, hcr, hmu, hix⟩ := hrel
        have CW := kide hcw
        have SV := kide hsv
        have BW := kide hbw
        have CR := kide hcr
        have MU := kide hmu
        have IX := kide hix
        clear hcw hsv hbw hcr hmu hix HC3 SV6 BW6 CR6 MU6 HH0
        by_cases hlt : qn < tn
        · have i1 : (qn : Int) < (tn : Int) := by omega
          obtain ⟨t, hxt⟩ : ∃ t, ix[qn]? = some t := ⟨_, List.getElem?_eq_getElem (show qn < ix.length by rw [HTN.out]; exact hlt)⟩
          obtain ⟨g, rfl, hgN, hgc⟩ := HTC.out qn t hxt
          obtain ⟨nx, hends⟩ := (HXM.out t).1 (List.mem_of_getElem? hxt)
          obtain ⟨l, hl, hle⟩ := hends
          have htl : t < s.ts.length := by rw [HN.out.n]; exact (List.getElem?_eq_some_iff.1 hl).1
          obtain ⟨tb, htb⟩ : ∃ tb, s.ts[t]? = some tb := ⟨_, List.getElem?_eq_getElem htl⟩
          have etb : s.ts.getD t 0 = tb := by rw [List.getD, htb]; rfl
          rw [etb] at hgc
          have c0 : wr.cell? ⟨g, qn, none⟩ = some (.pointer (some ⟨tb, 0, none⟩)) := by rw [BW.out.cell (p := ⟨g, qn, none⟩) hgN]; exact hgc
          have hbw : Below w.heap.size w wr := by rw [HN0.out]; exact BW.out
          have GV := kide (HH.out.later hbw)
          have c1 : wr.cell? ⟨pk, 0, none⟩ = some (.int .i64 (k : Int)) := (GV.out.get HPK.out).1
          have c2 : wr.cell? ⟨N0, k, none⟩ = some (cv s.ts (came k)) := by rw [cell_of CR.out, cmA_get _ _ hkn]
          have hnq := tie_neq GV.out HG.out HPS.out HN.out.n htb hl (came k) (fun j hj => by
            obtain ⟨u, ⟨l', hl', -⟩, -⟩ := CW.out.k1 k j hj
            exact (List.getElem?_eq_some_iff.1 hl').1)
          have i2 : (k : Int) < (n : Int) := by omega
          have HXT := kide hxt
          have HL := kide hl
          have HLE := kide hle
          have HTB := kide htb
          have ETB := kide etb
          have IX2 : Hid (∀ x, setH H k t k x = true ↔ x ∈ ix.take (qn + 1)) := fun x => by
            rw [List.take_add_one, hxt]
            constructor
            · intro hx
              rcases setH_or hx with ⟨-, e⟩ | e
              · simp [e]
              · exact List.mem_append_left _ ((IX.out x).1 e)
            · intro hx
              rcases List.mem_append.1 hx with e | e
              · exact setH_up ((IX.out x).2 e)
              · simp at e; rw [e]; exact setH_at _ _ _
          clear hxt hl hle htb etb htl hgc hbw t0
          by_cases hck : came k = some t
          · have hde : decide (came k ≠ some t) = false := by simp [hck]
            rw [hde] at hnq
            have HCK := kide hck
            clear hde hck
            go_wp2_with fail
            go_roundw
            case rel => exact ⟨qn + 1, came, rk, m, setH H k t, op, vk, by go_num, by omega, CW.out.back HCK.out, SV.out, BW.out, CR.out, MU.out, IX2.out⟩
            case measure => simp [intOf]; omega
          · have hde : decide (came k ≠ some t) = true := by simp [hck]
            rw [hde] at hnq
            have EN : Hid (Ends s.ls t k nx) := ⟨l, HL.out, HLE.out⟩
            have hHf : H k t = false := by
              cases e : H k t with
              | false => rfl
              | true =>
                obtain ⟨i, hi, he⟩ := List.mem_iff_getElem.1 ((IX.out t).1 e)
                have hi2 : i < qn := by simp at hi; omega
                have h1 : ix[i]? = some t := by
                  rw [List.getElem_take] at he
                  rw [← he]
                  exact List.getElem?_eq_getElem _
                exact absurd ((List.getElem?_inj (by simp at hi; omega) HXD.out).1 (h1.trans HXT.out.symm)) (by omega)
            obtain ⟨hnn, hna⟩ := CW.out.fresh HG.out hHf hck EN.out
            have hrg : l.1.toNat < n ∧ l.2.1.toNat < n := by
              obtain ⟨L', -, hok, -⟩ := goF_at HG.out HL.out
              obtain ⟨q1, q2, -⟩ := lkOk_iff.1 hok
              omega
            have hnx : nx < n := by have := HLE.out; omega
            obtain ⟨pA, hpA⟩ : ∃ p, s.ps[l.1.toNat]? = some p := ⟨_, List.getElem?_eq_getElem (show _ < s.ps.length by rw [HPS.out]; exact hrg.1)⟩
            obtain ⟨pB, hpB⟩ : ∃ p, s.ps[l.2.1.toNat]? = some p := ⟨_, List.getElem?_eq_getElem (show _ < s.ps.length by rw [HPS.out]; exact hrg.2)⟩
            obtain ⟨pn, hpn⟩ : ∃ p, s.ps[nx]? = some p := ⟨_, List.getElem?_eq_getElem (show _ < s.ps.length by rw [HPS.out]; exact hnx)⟩
            obtain ⟨-, f, htie⟩ := GV.out.ti t tb l HTB.out HL.out
            rw [show s.ps.getD l.1.toNat 0 = pA by rw [List.getD, hpA]; rfl, show s.ps.getD l.2.1.toNat 0 = pB by rw [List.getD, hpB]; rfl] at htie
            have hoth : (if pA = pk then pB else pA) = pn := by
              rcases HLE.out with ⟨e1, e2⟩ | ⟨e1, e2⟩
              · have e3 : pA = pk := by rw [e1, HPK.out] at hpA; injection hpA with h; exact h.symm
                have e4 : pB = pn := by rw [e2, hpn] at hpB; injection hpB with h; exact h.symm
                rw [if_pos e3, e4]
              · have e3 : pA = pn := by rw [e2, hpn] at hpA; injection hpA with h; exact h.symm
                have e4 : pB = pk := by rw [e1, HPK.out] at hpB; injection hpB with h; exact h.symm
                by_cases q : pA = pk
                · rw [if_pos q, e4, ← q, e3]
                · rw [if_neg q, e3]
            have heq : (binOp .eql 70 (.pointer (some ⟨pA, 0, none⟩)) (.pointer (some ⟨pk, 0, none⟩))).run Try.prog wr = .ok (.bool (decide (pA = pk))) wr := by
              by_cases q : pA = pk
              · subst q
                rw [GV.out.ptr_same hpA]; simp
              · rw [GV.out.ptr_ne hpA HPK.out q, decide_eq_false q]
            have HOT := kide (other_any tb pk pA pB _ f wr htie heq)
            rw [hoth] at HOT
            have HPN := kide hpn
            have c3 : wr.cell? ⟨pn, 0, none⟩ = some (.int .i64 (nx : Int)) := (GV.out.get hpn).1
            have c4 : wr.cell? ⟨N0, nx, none⟩ = some (cv s.ts (came nx)) := by rw [cell_of CR.out, cmA_get _ _ hnx]
            have c5 : wr.frozen? ⟨N0, nx, none⟩ = false := frozen_of_row wr N0 nx _ _ CR.out
            have i3 : (nx : Int) < (n : Int) := by omega
            have CW7 := kide (CW.out.come EN.out hnn hna hnx)
            have CR7 : Hid ((wr.setCell ⟨N0, nx, none⟩ (.pointer (some ⟨tb, 0, none⟩))).heap[N0]? = some (.cells (cmA s.ts (setC came nx t) n) 85 (0, 0))) := by
              show _ = _
              rw [heap_setCell_same wr N0 nx _ _ _ CR.out, ← cmA_set, ETB.out]
            have SV7 := kide (SV.out.tie (o := nx) CR.out (.pointer (some ⟨tb, 0, none⟩)))
            have BW7 : Hid (Below N0 w (wr.setCell ⟨N0, nx, none⟩ (.pointer (some ⟨tb, 0, none⟩)))) := BW.out.setCell (Nat.le_refl _) _
            have MU7 : Hid (2 * und (setC came nx t) a n + (op ++ [nx]).length < gk ∧ und (setC came nx t) a n + (op ++ [nx]).length < n) := by
              have h1 := und_set (t := t) hnn hna n hnx
              have h2 := MU.out
              rw [List.length_append]
              simp only [List.length_cons, List.length_nil]
              exact ⟨by omega, by omega⟩
            clear hde hck hHf hnn hna hrg hpA hpB hpn htie hoth heq CW SV BW MU IX
            go_wp2_with fail
            refine Calls.mono HOT.out ?_
            rintro e w7 ⟨rfl, hw7⟩
            obtain rfl := hw7.symm
            go_wp2_with fail
            generalize wr.setCell ⟨N0, nx, none⟩ (.pointer (some ⟨tb, 0, none⟩)) = w8 at *
            refine Calls.mono (pushK_any SV7.out (by have := MU7.out.2; rw [List.length_append] at this; rw [List.length_map]; omega)) ?_
            rintro e w9 ⟨rfl, ⟨v9, hs9⟩, hb9, hk9⟩
            have e9 : (op.map (fun k => s.ps.getD k 0)) ++ [pn] = (op ++ [nx]).map (fun k => s.ps.getD k 0) := by
              rw [List.map_append]
              simp [HPN.out]
            rw [e9] at hs9
            have SV9 := kide hs9
            have BW9 := kide (BW7.out.trans hb9)
            have CR9 := kide (hk9 _ _ _ CR7.out (by decide) (by decide))
            clear hs9 hb9 hk9 e9
            go_wp2_with fail
            go_roundw
            case rel => exact ⟨qn + 1, _, _, _, _, _, v9, by go_num, by omega, CW7.out, SV9.out, BW9.out, CR9.out, MU7.out, IX2.out⟩
            case measure => simp [intOf]; omega
        · have hqe : qn = tn := by omega
          have hl2 : ¬ (qn : Int) < (tn : Int) := by omega
          have DN : Hid (∀ t u, Ends s.ls t k u → H k t = true) := fun t u he => by
            rw [IX.out, hqe, List.take_of_length_le (by rw [HTN.out]; exact Nat.le_refl _)]
            exact (HXM.out t).2 ⟨u, he⟩
          clear hlt hqe
          go_wp2_with fail
          go_roundg (2 * und came a n + op.length)
          case measure => exact MU.out.1
          case rel => exact ⟨came, rk, m, H, op, vk, CW.out.done DN.out, SV.out, BW.out, CR.out, Nat.le_refl _, by have := MU.out.2; omega⟩

end Go.Proofs.Ytakicdlfolhhcaa
