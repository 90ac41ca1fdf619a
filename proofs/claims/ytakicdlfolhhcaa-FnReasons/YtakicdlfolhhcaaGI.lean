/- The specification's names of sets. -/
import Derived.Test.YtakicdlfolhhcaaGE
namespace Go.Proofs.Ytakicdlfolhhcaa
set_option linter.unusedVariables false
set_option linter.unusedSimpArgs false
open Go.RowKit

theorem Try.infoI64 : (Try.prog.info? 2).map (fun i => (i.zero, i.size, i.bytes)) = some (some (.int .i64 0), 1, 8) := by kernel_rfl

/-- A row of whole numbers that is the owner's own. -/
def OW (w : World) (B : Nat) (v : Value) (xs : List Int) : Prop := w.ownsRow B 2 1 v xs.length (xs.map (Value.int .i64))

theorem wpList_appW {w : World} {ops : Array Oper} {rest : List Oper} {o : Oper} {a : Act} {Q : Exit → Act → World → Prop} (hgd : o.guard = none) (s x : Operand)
    (ho : o.op = .call { callee := .builtin .append, args := #[s, x], argTypes := #[44, 44] })
    (B : Nat) (v : Value) (xs : List Int) (y : Int) (hs : a.eval s = v) (hown : OW w B v xs) (gx : Nat) (hx : a.eval x = .slice (some ⟨gx, 0, none⟩) 1 1)
    (h0 : w.cell? ⟨gx, 0, none⟩ = some (.int .i64 y)) (hl : xs.length ≤ 1073741824) (hB : B ≤ w.heap.size)
    (h : ∀ v' w', OW w' B v' (xs ++ [y]) → w.grownBy w' v.ownBlock → wpList Try.prog ops Q rest (a.put o.dst v') w') : wpList Try.prog ops Q (o :: rest) a w := by
  obtain ⟨i0, hi, hz0, hz1, hz2⟩ := info_parts Try.infoI64
  refine wpList_append_own_at w hgd s x 44 ho B 2 i0 _ 1 8 Try.underlying44 hi hz0 hz1 hz2 rfl (by decide) v xs.length (xs.map (Value.int .i64)) hs hown ⟨gx, 0, none⟩ 1 1 [.int .i64 y] hx rfl ?_ ?_ (by unfold maxLen; omega) (by omega) hB ?_
  · intro j u hj
    rw [Addr.add_lit]
    match j, hj with
    | 0, hj => simp at hj; subst hj; exact h0
    | j + 1, hj => simp at hj
  · intro u hu
    simp at hu
    subst hu
    rfl
  · intro v' w' ho' hg _ _
    refine h v' w' ?_ hg
    unfold OW
    rw [List.map_append, List.length_append]
    exact ho'

theorem OW.put {w : World} {B g cap n i : Nat} {xs : List Int} (h : OW w B (.slice (some ⟨g, 0, none⟩) n cap) xs) (x : Int) : OW (w.setCell ⟨g, i, none⟩ (.int .i64 x)) B (.slice (some ⟨g, 0, none⟩) n cap) (xs.set i x) := by
  obtain ⟨h1, h2⟩ := h
  rcases h2 with ⟨h0, -⟩ | ⟨g', cap', cur, e, hB, hh, h3, h4, h5, h6⟩
  · cases h0
  · cases e
    refine ⟨by simp, .inr ⟨g, cap, cur.setIfInBounds i (.int .i64 x), by simp, hB, heap_setCell_same w g i _ _ _ hh, by simpa using h3, h4, by simpa using h5, ?_⟩⟩
    have h6' : cur.toList.take xs.length = xs.map (Value.int .i64) := by simpa using h6
    simp only [List.length_set, Nat.mul_one, Array.toList_setIfInBounds, List.map_set]
    rw [List.take_set, h6']

theorem OW.cell {w : World} {B g cap n : Nat} {xs : List Int} (h : OW w B (.slice (some ⟨g, 0, none⟩) n cap) xs) {i : Nat} {x : Int} (hi : xs[i]? = some x) : w.cell? ⟨g, i, none⟩ = some (.int .i64 x) ∧ w.frozen? ⟨g, i, none⟩ = false := by
  have hcells := World.ownsRow.cells h (g := g) rfl i (.int .i64 x) (by rw [List.getElem?_map, hi]; rfl)
  rw [Addr.add_lit] at hcells
  obtain ⟨h1, h2⟩ := h
  rcases h2 with ⟨h0, -⟩ | ⟨g', cap', cur, e, hB, hh, -⟩
  · cases h0
  · cases e
    exact ⟨by simpa using hcells, frozen_of_row w g i _ _ hh⟩

/-- The names of the first n nodes. -/
def lv (n : Nat) (L : Nat → Nat) : List Int := (List.range n).map (fun i => (L i : Int))
theorem lv_len (n : Nat) (L : Nat → Nat) : (lv n L).length = n := by simp [lv]
theorem lv_get {n : Nat} {L : Nat → Nat} {i : Nat} (h : i < n) : (lv n L)[i]? = some (L i : Int) := by simp [lv, h]

/-- .. of which the first k are merged. -/
def mk (L : Nat → Nat) (x y k : Nat) : Nat → Nat := fun i => if i < k ∧ L i = y then x else L i
theorem mk_zero (L : Nat → Nat) (x y : Nat) : mk L x y 0 = L := by funext i; simp [mk]
theorem mk_ge {L : Nat → Nat} {x y k i : Nat} (h : k ≤ i) : mk L x y k i = L i := by simp [mk]; omega
theorem mk_set {n : Nat} {L : Nat → Nat} {x y k : Nat} (hk : k < n) (hy : L k = y) : (lv n (mk L x y k)).set k (x : Int) = lv n (mk L x y (k + 1)) := by
  apply List.ext_getElem?
  intro i
  rw [List.getElem?_set]
  by_cases e : k = i
  · subst e
    rw [if_pos rfl, if_pos (by rw [lv_len]; exact hk), lv_get hk]
    simp [mk, hy]
  · rw [if_neg e]
    by_cases hi : i < n
    · rw [lv_get hi, lv_get hi]
      have : (i < k ∧ L i = y) ↔ (i < k + 1 ∧ L i = y) := by omega
      simp [mk, this]
    · simp [lv, hi]
theorem mk_same {n : Nat} {L : Nat → Nat} {x y k : Nat} (hy : L k ≠ y) : lv n (mk L x y k) = lv n (mk L x y (k + 1)) := by
  unfold lv
  congr 1
  funext i
  by_cases e : i = k
  · subst e; simp [mk, hy]
  · have : (i < k ∧ L i = y) ↔ (i < k + 1 ∧ L i = y) := by omega
    simp [mk, this]
theorem mk_all {n : Nat} {L : Nat → Nat} {a b : Nat} : lv n (mk L (min (L a) (L b)) (max (L a) (L b)) n) = lv n (mrg L a b) := by
  unfold lv
  apply List.map_congr_left
  intro i hi
  have := List.mem_range.1 hi
  simp [mk, mrg, this]

set_option maxHeartbeats 1000000 in
theorem l7Merge_any (g cap B n : Nat) (L : Nat → Nat) (a b : Nat) (w : World) (ho : OW w B (.slice (some ⟨g, 0, none⟩) n cap) (lv n L)) (ha : a < n) (hb : b < n) (hn : n ≤ 1048576) (hL : ∀ i, i < n → L i < n) :
    Calls Try.prog 41 #[.slice (some ⟨g, 0, none⟩) n cap, .int .i64 (a : Int), .int .i64 (b : Int)] w fun e w' => e = .returned (.tuple #[]) ∧ OW w' B (.slice (some ⟨g, 0, none⟩) n cap) (lv n (mrg L a b)) ∧ w.grownBy w' (some g) := by
  obtain ⟨qa, -⟩ := ho.cell (lv_get ha)
  obtain ⟨qb, -⟩ := ho.cell (lv_get hb)
  have h1 := hL a ha
  have h2 := hL b hb
  have i0 : (a : Int) < (n : Int) := by omega
  have i1 : (b : Int) < (n : Int) := by omega
  have HO := kide ho
  have HM := kide (mk_all (n := n) (L := L) (a := a) (b := b))
  have HLL := kide hL
  clear ho hL
  obtain ⟨va, hva⟩ : ∃ va, L a = va := ⟨_, rfl⟩
  obtain ⟨vb, hvb⟩ : ∃ vb, L b = vb := ⟨_, rfl⟩
  rw [hva] at qa h1 HM
  rw [hvb] at qb h2 HM
  clear hva hvb
  rcases Nat.lt_trichotomy va vb with hc | hc | hc
  · rw [Nat.min_eq_left (by omega), Nat.max_eq_right (by omega)] at HM
    have hc' : (va : Int) < (vb : Int) := by omega
    have hc2 : ¬ (vb : Int) < (va : Int) := by omega
    clear hc
    go_enter Try.func41, Try.ntmps41
    go_wp2_with fail
    go_quiet (fail)
    have qa2 : (w.drewN nq).cell? ⟨g, a, none⟩ = some (.int .i64 (va : Int)) := qa
    have qb2 : (w.drewN nq).cell? ⟨g, b, none⟩ = some (.int .i64 (vb : Int)) := qb
    have HO1 : Hid (OW (w.drewN nq) B (.slice (some ⟨g, 0, none⟩) n cap) (lv n L)) := HO.out
    have HG1 : Hid (w.grownBy (w.drewN nq) (some g)) := ⟨rfl, rfl, rfl, Nat.le_refl _, fun _ _ _ => rfl⟩
    generalize w.drewN nq = w1 at *
    go_wp2_with fail
    go_quiet (fail)
    have HO2 : Hid (OW (w1.drewN nq) B (.slice (some ⟨g, 0, none⟩) n cap) (lv n L)) := HO1.out
    have HG2 : Hid (w.grownBy (w1.drewN nq) (some g)) := ⟨HG1.out.os, HG1.out.tape, HG1.out.output, HG1.out.size, HG1.out.block⟩
    generalize w1.drewN nq = w2 at *
    go_wp2_with fail
    clear qa qb qa2 qb2 HO HO1 HG1
    go_loopw [8] (fun q wr => ∃ k : Nat, k ≤ n ∧ q = .int .i64 (k : Int) ∧ OW wr B (.slice (some ⟨g, 0, none⟩) n cap) (lv n (mk L va vb k)) ∧ w.grownBy wr (some g)) (fun q _ => n - (intOf q).toNat)
    case atStart => exact ⟨0, Nat.zero_le _, rfl, by rw [mk_zero]; exact HO2.out, HG2.out⟩
    case round =>
      obtain ⟨k, hk, rfl, hown, hgr⟩ := hrel
      have HO := kide hown
      have HG := kide hgr
      clear hown hgr HO2 HG2
      by_cases hlt : k < n
      · have j0 : (k : Int) < (n : Int) := by omega
        obtain ⟨q0, f0⟩ := HO.out.cell (lv_get (L := mk L va vb k) hlt)
        rw [mk_ge (Nat.le_refl k)] at q0
        obtain ⟨z, hz⟩ : ∃ z, L k = z := ⟨_, rfl⟩
        rw [hz] at q0
        by_cases hy : z = vb
        · have HS := kide (mk_set (x := va) hlt (hz.trans hy))
          subst hy
          have he : ((z : Int) == (z : Int)) = true := by simp
          clear hz
          go_wp2_with fail
          go_roundw
          case rel => exact ⟨k + 1, by omega, by go_num, by rw [← HS.out]; exact HO.out.put _, ⟨HG.out.os, HG.out.tape, HG.out.output, by simpa using HG.out.size, fun q hq hne => by rw [heap_setCell_other _ _ _ _ (fun e => hne (by rw [e]))]; exact HG.out.block q hq hne⟩⟩
          case measure => simp [intOf]; omega
        · have HS := kide (mk_same (n := n) (x := va) (y := vb) (k := k) (L := L) (by rw [hz]; exact hy))
          have he : ((z : Int) == (vb : Int)) = false := by simp; omega
          clear hz hy
          go_wp2_with fail
          go_roundw
          case rel => exact ⟨k + 1, by omega, by go_num, by rw [← HS.out]; exact HO.out, HG.out⟩
          case measure => simp [intOf]; omega
      · have e : k = n := by omega
        subst e
        rw [HM.out] at HO
        go_wp2_with fail
        go_end0
        exact ⟨rfl, HO.out, HG.out⟩
  · subst hc
    rw [Nat.min_self, Nat.max_self] at HM
    have hc2 : ¬ (va : Int) < (va : Int) := by omega
    go_enter Try.func41, Try.ntmps41
    go_wp2_with fail
    go_quiet (fail)
    have qa2 : (w.drewN nq).cell? ⟨g, a, none⟩ = some (.int .i64 (va : Int)) := qa
    have qb2 : (w.drewN nq).cell? ⟨g, b, none⟩ = some (.int .i64 (va : Int)) := qb
    have HO1 : Hid (OW (w.drewN nq) B (.slice (some ⟨g, 0, none⟩) n cap) (lv n L)) := HO.out
    have HG1 : Hid (w.grownBy (w.drewN nq) (some g)) := ⟨rfl, rfl, rfl, Nat.le_refl _, fun _ _ _ => rfl⟩
    generalize w.drewN nq = w1 at *
    go_wp2_with fail
    go_quiet (fail)
    have HO2 : Hid (OW (w1.drewN nq) B (.slice (some ⟨g, 0, none⟩) n cap) (lv n L)) := HO1.out
    have HG2 : Hid (w.grownBy (w1.drewN nq) (some g)) := ⟨HG1.out.os, HG1.out.tape, HG1.out.output, HG1.out.size, HG1.out.block⟩
    generalize w1.drewN nq = w2 at *
    go_wp2_with fail
    clear qa qb qa2 qb2 HO HO1 HG1
    go_loopw [8] (fun q wr => ∃ k : Nat, k ≤ n ∧ q = .int .i64 (k : Int) ∧ OW wr B (.slice (some ⟨g, 0, none⟩) n cap) (lv n (mk L va va k)) ∧ w.grownBy wr (some g)) (fun q _ => n - (intOf q).toNat)
    case atStart => exact ⟨0, Nat.zero_le _, rfl, by rw [mk_zero]; exact HO2.out, HG2.out⟩
    case round =>
      obtain ⟨k, hk, rfl, hown, hgr⟩ := hrel
      have HO := kide hown
      have HG := kide hgr
      clear hown hgr HO2 HG2
      by_cases hlt : k < n
      · have j0 : (k : Int) < (n : Int) := by omega
        obtain ⟨q0, f0⟩ := HO.out.cell (lv_get (L := mk L va va k) hlt)
        rw [mk_ge (Nat.le_refl k)] at q0
        obtain ⟨z, hz⟩ : ∃ z, L k = z := ⟨_, rfl⟩
        rw [hz] at q0
        by_cases hy : z = va
        · have HS := kide (mk_set (x := va) hlt (hz.trans hy))
          subst hy
          have he : ((z : Int) == (z : Int)) = true := by simp
          clear hz
          go_wp2_with fail
          go_roundw
          case rel => exact ⟨k + 1, by omega, by go_num, by rw [← HS.out]; exact HO.out.put _, ⟨HG.out.os, HG.out.tape, HG.out.output, by simpa using HG.out.size, fun q hq hne => by rw [heap_setCell_other _ _ _ _ (fun e => hne (by rw [e]))]; exact HG.out.block q hq hne⟩⟩
          case measure => simp [intOf]; omega
        · have HS := kide (mk_same (n := n) (x := va) (y := va) (k := k) (L := L) (by rw [hz]; exact hy))
          have he : ((z : Int) == (va : Int)) = false := by simp; omega
          clear hz hy
          go_wp2_with fail
          go_roundw
          case rel => exact ⟨k + 1, by omega, by go_num, by rw [← HS.out]; exact HO.out, HG.out⟩
          case measure => simp [intOf]; omega
      · have e : k = n := by omega
        subst e
        rw [HM.out] at HO
        go_wp2_with fail
        go_end0
        exact ⟨rfl, HO.out, HG.out⟩
  · rw [Nat.min_eq_right (by omega), Nat.max_eq_left (by omega)] at HM
    have hc' : (vb : Int) < (va : Int) := by omega
    have hc2 : ¬ (va : Int) < (vb : Int) := by omega
    clear hc
    go_enter Try.func41, Try.ntmps41
    go_wp2_with fail
    go_quiet (fail)
    have qa2 : (w.drewN nq).cell? ⟨g, a, none⟩ = some (.int .i64 (va : Int)) := qa
    have qb2 : (w.drewN nq).cell? ⟨g, b, none⟩ = some (.int .i64 (vb : Int)) := qb
    have HO1 : Hid (OW (w.drewN nq) B (.slice (some ⟨g, 0, none⟩) n cap) (lv n L)) := HO.out
    have HG1 : Hid (w.grownBy (w.drewN nq) (some g)) := ⟨rfl, rfl, rfl, Nat.le_refl _, fun _ _ _ => rfl⟩
    generalize w.drewN nq = w1 at *
    go_wp2_with fail
    go_quiet (fail)
    have HO2 : Hid (OW (w1.drewN nq) B (.slice (some ⟨g, 0, none⟩) n cap) (lv n L)) := HO1.out
    have HG2 : Hid (w.grownBy (w1.drewN nq) (some g)) := ⟨HG1.out.os, HG1.out.tape, HG1.out.output, HG1.out.size, HG1.out.block⟩
    generalize w1.drewN nq = w2 at *
    go_wp2_with fail
    clear qa qb qa2 qb2 HO HO1 HG1
    go_loopw [8] (fun q wr => ∃ k : Nat, k ≤ n ∧ q = .int .i64 (k : Int) ∧ OW wr B (.slice (some ⟨g, 0, none⟩) n cap) (lv n (mk L vb va k)) ∧ w.grownBy wr (some g)) (fun q _ => n - (intOf q).toNat)
    case atStart => exact ⟨0, Nat.zero_le _, rfl, by rw [mk_zero]; exact HO2.out, HG2.out⟩
    case round =>
      obtain ⟨k, hk, rfl, hown, hgr⟩ := hrel
      have HO := kide hown
      have HG := kide hgr
      clear hown hgr HO2 HG2
      by_cases hlt : k < n
      · have j0 : (k : Int) < (n : Int) := by omega
        obtain ⟨q0, f0⟩ := HO.out.cell (lv_get (L := mk L vb va k) hlt)
        rw [mk_ge (Nat.le_refl k)] at q0
        obtain ⟨z, hz⟩ : ∃ z, L k = z := ⟨_, rfl⟩
        rw [hz] at q0
        by_cases hy : z = va
        · have HS := kide (mk_set (x := vb) hlt (hz.trans hy))
          subst hy
          have he : ((z : Int) == (z : Int)) = true := by simp
          clear hz
          go_wp2_with fail
          go_roundw
          case rel => exact ⟨k + 1, by omega, by go_num, by rw [← HS.out]; exact HO.out.put _, ⟨HG.out.os, HG.out.tape, HG.out.output, by simpa using HG.out.size, fun q hq hne => by rw [heap_setCell_other _ _ _ _ (fun e => hne (by rw [e]))]; exact HG.out.block q hq hne⟩⟩
          case measure => simp [intOf]; omega
        · have HS := kide (mk_same (n := n) (x := vb) (y := va) (k := k) (L := L) (by rw [hz]; exact hy))
          have he : ((z : Int) == (va : Int)) = false := by simp; omega
          clear hz hy
          go_wp2_with fail
          go_roundw
          case rel => exact ⟨k + 1, by omega, by go_num, by rw [← HS.out]; exact HO.out, HG.out⟩
          case measure => simp [intOf]; omega
      · have e : k = n := by omega
        subst e
        rw [HM.out] at HO
        go_wp2_with fail
        go_end0
        exact ⟨rfl, HO.out, HG.out⟩

end Go.Proofs.Ytakicdlfolhhcaa
