/- Several texts in one. -/
import Derived.Test.YthoiajpbpoglfaaBS
import Derived.Test.YthoiajpbpoglfaaZKAG
import Derived.Test.YthoiajpbpoglfaaBQ

/- Numbers rising, each once, on the given side. -/
namespace Go.Proofs.Ythoiajpbpoglfaa
set_option linter.unusedVariables false
set_option linter.unusedSimpArgs false
open Go.RowKit Go.WideMaps Go.Maps

/-- How many of the first n are not above x, from the end on. -/
def posI (out : List Int) (x : Int) : Nat → Nat
  | 0 => 0
  | n + 1 => if out.getD n 0 > x then posI out x n else n + 1
def insI (out : List Int) (x : Int) : List Int := out.take (posI out x out.length) ++ x :: out.drop (posI out x out.length)
def risI (out : List Int) : List Int → List Int
  | [] => out
  | x :: t => risI (if x ∈ out then out else insI out x) t

theorem posI_le (out : List Int) (x : Int) : ∀ n, posI out x n ≤ n
  | 0 => Nat.le_refl _
  | n + 1 => by
    unfold posI
    split
    · exact Nat.le_trans (posI_le out x n) (Nat.le_succ _)
    · exact Nat.le_refl _
theorem insI_mem (out : List Int) (x y : Int) : y ∈ insI out x ↔ y = x ∨ y ∈ out := by
  unfold insI
  rw [List.mem_append, List.mem_cons]
  conv => rhs; rw [← List.take_append_drop (posI out x out.length) out, List.mem_append]
  constructor
  · rintro (h | h | h)
    · exact .inr (.inl h)
    · exact .inl h
    · exact .inr (.inr h)
  · rintro (h | h | h)
    · exact .inr (.inl h)
    · exact .inl h
    · exact .inr (.inr h)
theorem insI_len (out : List Int) (x : Int) : (insI out x).length = out.length + 1 := by
  have := posI_le out x out.length
  unfold insI
  simp
  omega

/-- A row of numbers of one's own. -/
def OI1 (w : World) (B : Nat) (v : Value) (xs : List Int) : Prop := w.ownsRow B 2 1 v xs.length (xs.map (Value.int .i64))

theorem OI1.form {w : World} {B : Nat} {v : Value} {xs : List Int} (h : OI1 w B v xs) : ∃ a c, v = .slice a xs.length c := by
  rcases h.2 with ⟨e, h0⟩ | ⟨g, cap, cur, e, -⟩
  · exact ⟨none, 0, by rw [e, h0]⟩
  · exact ⟨_, _, e⟩
theorem OI1.rd {w : World} {B n c : Nat} {a : Option Addr} {xs : List Int} (h : OI1 w B (.slice a n c) xs) (hl : xs.length ≤ 1048576) (hx : ∀ x ∈ xs, in64 x) : RdI w a xs := by
  rcases h.2 with ⟨e, h0⟩ | ⟨g, cap, cur, e, hg, hh, hc1, hc2, hsz, hcur⟩
  · have e := List.eq_nil_of_length_eq_zero h0
    subst e
    exact ⟨by simp, by simp, .inl rfl⟩
  · cases e
    refine ⟨hl, hx, .inr ⟨g, 0, rfl, fun i hi => ?_⟩⟩
    have h3 : (cur.toList.take (xs.length * 1))[i]? = (xs.map (Value.int .i64))[i]? := by rw [hcur]
    rw [List.getElem?_take, if_pos (by omega)] at h3
    simp only [Array.getElem?_toList] at h3
    rw [Nat.zero_add, cell_of_row w g i cur _ _ hh, h3]
    simp [List.getD, hi]

theorem OI1.cell {w : World} {B n c g : Nat} {xs : List Int} (h : OI1 w B (.slice (some ⟨g, 0, none⟩) n c) xs) {i : Nat} {x : Int} (hi : xs[i]? = some x) : w.cell? ⟨g, i, none⟩ = some (.int .i64 x) := by
  have hil := (List.getElem?_eq_some_iff.1 hi).1
  rcases h.2 with ⟨e, h0⟩ | ⟨g', cap, cur, e, hg, hh, hc1, hc2, hsz, hcur⟩
  · cases e
  · cases e
    have h3 : (cur.toList.take (xs.length * 1))[i]? = (xs.map (Value.int .i64))[i]? := by rw [hcur]
    rw [List.getElem?_take, if_pos (by omega)] at h3
    simp only [Array.getElem?_toList] at h3
    rw [cell_of_row w _ i cur _ _ hh, h3]
    simp [hi]
theorem OI1.froz {w : World} {B n c g : Nat} {xs : List Int} (h : OI1 w B (.slice (some ⟨g, 0, none⟩) n c) xs) (i : Nat) : w.frozen? ⟨g, i, none⟩ = false := by
  rcases h.2 with ⟨e, h0⟩ | ⟨g', cap, cur, e, hg, hh, hc1, hc2, hsz, hcur⟩
  · cases e
  · cases e
    exact frozen_of_row w _ i _ _ hh
theorem OI1.set {w : World} {B n c g : Nat} {xs : List Int} (h : OI1 w B (.slice (some ⟨g, 0, none⟩) n c) xs) {i : Nat} (hi : i < xs.length) (x : Int) : OI1 (w.setCell ⟨g, i, none⟩ (.int .i64 x)) B (.slice (some ⟨g, 0, none⟩) n c) (xs.set i x) := by
  rcases h.2 with ⟨e, h0⟩ | ⟨g', cap, cur, e, hg, hh, hc1, hc2, hsz, hcur⟩
  · cases e
  · cases e
    refine ⟨by simp, .inr ⟨g, c, cur.setIfInBounds i (.int .i64 x), by simp, hg, heap_setCell_same w g i _ _ _ hh, by simpa using hc1, hc2, by simpa using hsz, ?_⟩⟩
    rw [Array.toList_setIfInBounds, List.map_set, ← hcur, List.take_set]
    simp
theorem OI1.later {w w' : World} {B : Nat} {v : Value} {xs : List Int} (h : OI1 w B v xs) (hb : Below w.heap.size w w') : OI1 w' B v xs := owr_move h (fun b hb' => by obtain ⟨⟨cur, hc⟩, -⟩ := owr_typed h hb'; exact hb.block b (lt_of_block hc))
theorem OI1.empty (w : World) (B : Nat) (h : B ≤ w.heap.size) : OI1 (w.alloc (.cells #[] 2)) B (.slice (some ⟨w.heap.size, 0, Option.none⟩) 0 0) [] := World.ownsRow_made w #[] 0 h (Nat.zero_le _) (by simp)
theorem OI1.lt {w : World} {B n c g : Nat} {xs : List Int} (h : OI1 w B (.slice (some ⟨g, 0, none⟩) n c) xs) : B ≤ g ∧ g < w.heap.size := by
  obtain ⟨⟨cur, hc⟩, hg⟩ := owr_typed h (b := g) rfl
  exact ⟨hg, lt_of_block hc⟩

theorem oi1_of {w : World} {B : Nat} {v : Value} {out : List Int} {x : Int} (h : w.ownsRow B 2 1 v (out.length + 1) (out.map (Value.int .i64) ++ [Value.int .i64 x])) : ∃ g c, v = .slice (some ⟨g, 0, none⟩) (out.length + 1) c ∧ OI1 w B (.slice (some ⟨g, 0, none⟩) (out.length + 1) c) (out ++ [x]) := by
  have h2 : OI1 w B v (out ++ [x]) := by
    unfold OI1
    simpa using h
  rcases h2.2 with ⟨e, h0⟩ | ⟨g, cap, cur, e, r⟩
  · simp at h0
  · have e' : v = .slice (some ⟨g, 0, none⟩) (out.length + 1) cap := by simpa using e
    exact ⟨g, cap, e', by rw [← e']; exact h2⟩

theorem hole_set (old : List Int) (y v : Int) {k : Nat} (hk : k ≤ old.length) : (old.take k ++ y :: old.drop k).set k v = old.take k ++ v :: old.drop k := by
  rw [List.set_append_right _ _ (by simp; omega)]
  simp [Nat.min_eq_left hk]
theorem hole_step (old : List Int) {k : Nat} {z : Int} (hz : old[k]? = some z) : old.take (k + 1) ++ z :: old.drop (k + 1) = old.take k ++ z :: old.drop k := by
  have hk := (List.getElem?_eq_some_iff.1 hz).1
  rw [List.take_add_one, hz, List.drop_eq_getElem_cons hk]
  have e : old[k] = z := (List.getElem?_eq_some_iff.1 hz).2
  rw [e]
  simp
theorem hole_get (old : List Int) (y : Int) {k j : Nat} {z : Int} (hj : j < k) (hz : old[j]? = some z) (hk : k ≤ old.length) : (old.take k ++ y :: old.drop k)[j]? = some z := by
  rw [List.getElem?_append_left (by simp; omega), List.getElem?_take, if_pos hj]
  exact hz

def RetI (w : World) (r : List Int) (e : Ending) (w' : World) : Prop := ∃ v, e = .returned v ∧ OI1 w' w.heap.size v r ∧ Below w.heap.size w w'

theorem risI_step {ks : List Int} {k : Nat} {x : Int} (h : ks[k]? = some x) (out : List Int) : risI out (ks.take (k + 1)) = (if x ∈ risI out (ks.take k) then risI out (ks.take k) else insI (risI out (ks.take k)) x) := by
  have gen : ∀ (xs : List Int) (out : List Int), risI out (xs ++ [x]) = (if x ∈ risI out xs then risI out xs else insI (risI out xs) x) := by
    intro xs
    induction xs with
    | nil => intro out; rfl
    | cons y t ih => intro out; simp only [List.cons_append, risI]; exact ih _
  rw [List.take_add_one, h]
  exact gen _ out
theorem risI_mem : ∀ (xs out : List Int) (y : Int), y ∈ risI out xs ↔ y ∈ out ∨ y ∈ xs
  | [], out, y => by simp [risI]
  | x :: t, out, y => by
    rw [risI, risI_mem t]
    by_cases e : x ∈ out
    · rw [if_pos e]
      constructor
      · rintro (h | h)
        · exact .inl h
        · exact .inr (List.mem_cons_of_mem _ h)
      · rintro (h | h)
        · exact .inl h
        · rcases List.mem_cons.1 h with rfl | h
          · exact .inl e
          · exact .inr h
    · rw [if_neg e, insI_mem]
      constructor
      · rintro ((rfl | h) | h)
        · exact .inr (by simp)
        · exact .inl h
        · exact .inr (List.mem_cons_of_mem _ h)
      · rintro (h | h)
        · exact .inl (.inr h)
        · rcases List.mem_cons.1 h with rfl | h
          · exact .inl (.inl rfl)
          · exact .inr h
theorem risI_len : ∀ (xs out : List Int), (risI out xs).length ≤ out.length + xs.length
  | [], out => by simp [risI]
  | x :: t, out => by
    rw [risI]
    have := risI_len t (if x ∈ out then out else insI out x)
    have h2 := insI_len out x
    split at this
    · simp; rw [if_pos (by assumption)]; omega
    · simp; rw [if_neg (by assumption)]; omega

set_option maxHeartbeats 2000000 in
set_option maxRecDepth 100000 in
theorem l7Rising_any (a : Option Addr) (c n : Nat) (ks : List Int) (w : World) (hr : RdI w a ks) (hn : ks.length = n) :
    Calls Try.prog 59 #[.slice a n c] w (RetI w (risI [] ks)) := by
  have hl := hr.1
  rw [hn] at hl
  have HR := kide hr
  have HN := kide hn
  clear hr hn
  go_enter Try.func59, Try.ntmps59
  go_wp2_with fail
  have O0 := kide (OI1.empty w w.heap.size (Nat.le_refl _))
  have B0 : Hid (Below w.heap.size w (w.alloc (.cells #[] 2))) := (Below.refl _ _).alloc (Nat.le_refl _) _
  generalize w.alloc (Obj.cells #[] 2) = W at *
  go_loopw [3, 4] (fun v q wr => ∃ k : Nat, k ≤ n ∧ q = .int .i64 (k : Int) ∧ OI1 wr w.heap.size v (risI [] (ks.take k)) ∧ Below w.heap.size w wr) (fun _ q _ => n - (intOf q).toNat)
  case atStart => exact ⟨0, Nat.zero_le _, rfl, O0.out, B0.out⟩
  case round =>
    obtain ⟨k, hk, rfl, ho, hb⟩ := hrel
    have HO := kide ho
    have HB := kide hb
    clear O0 B0
    by_cases hlt : k < n
    · have i0 : (k : Int) < (n : Int) := by omega
      obtain ⟨x, gx⟩ : ∃ x, ks[k]? = some x := ⟨ks[k]'(by rw [HN.out]; exact hlt), List.getElem?_eq_getElem _⟩
      have hst := risI_step gx []
      have hmem : ∀ y ∈ risI [] (ks.take k), in64 y := fun y hy => by
        rcases (risI_mem _ _ _).1 hy with h | h
        · cases h
        · exact HR.out.2.1 y (List.mem_of_mem_take h)
      have hlen : (risI [] (ks.take k)).length ≤ 1048576 := by have h9 := risI_len (ks.take k) []; rw [List.length_take, List.length_nil] at h9; omega
      generalize risI [] (ks.take k) = out at *
      obtain ⟨av, cv, rfl⟩ := ho.form
      have HHAS := kide (fun u (hu : Below wr.heap.size wr u) => l1Has_any av cv out x u ((ho.later hu).rd hlen hmem))
      obtain ⟨-, -, h | ⟨b, o, rfl, hc⟩⟩ := HR.out.later hb
      · rw [h] at gx; simp at gx
      have p0 := hc k (by rw [HN.out]; exact hlt)
      rw [show ks.getD k 0 = x by simp [List.getD, gx]] at p0
      have HXK := kide (show ks.getD k 0 = x by simp [List.getD, gx])
      have HST := kide hst
      have lb := block_lt_of_cell p0
      obtain ⟨m, hm⟩ : ∃ m, out.length = m := ⟨_, rfl⟩
      rw [hm] at HHAS HO hlen ⊢
      have HM := kide hm
      clear hc hst ho hb gx hmem hm
      by_cases hin : x ∈ out
      · rw [decide_eq_true hin] at HHAS
        rw [if_pos hin] at HST
        go_wp2_with fail
        refine Calls.mono (HHAS.out _ (Below.refl _ _)) ?_
        rintro e w3 ⟨rfl, hw3⟩
        obtain rfl := hw3.symm
        go_wp2_with fail
        go_roundw
        case rel => exact ⟨k + 1, by omega, by go_num, by rw [HST.out]; exact HO.out, HB.out⟩
        case measure => simp [intOf]; omega
      · rw [decide_eq_false hin] at HHAS
        rw [if_neg hin] at HST
        have hba : Below wr.heap.size wr (wr.alloc (Obj.cells #[Value.int .i64 x] 2)) := (Below.refl _ _).alloc (Nat.le_refl _) _
        have hoa := HO.out.later hba
        unfold OI1 at hoa
        rw [show out.length = (out.map (Value.int .i64)).length by simp] at hoa
        have HOA := kide hoa
        have HBA := kide (HB.out.trans (hba.mono HB.out.size))
        have hzz := HB.out.size
        have hlm : (out.map (Value.int .i64)).length ≤ 1073741824 := by rw [List.length_map, HM.out]; omega
        clear hin hba hoa
        go_wp2_with (first
          | (go_at_call 84; refine Calls.mono (HHAS.out _ (Below.refl _ _)) ?_; rintro e w3 ⟨rfl, hw3⟩; obtain rfl := hw3.symm)
          | (at_builtin; refine wpList_appI8 rfl _ _ rfl w.heap.size _ (out.map (Value.int .i64)) x rfl HOA.out _ rfl (by simp) hlm (by simp; omega) ?_)
          | fail)
        intro v5 w5 ho5 hg5 hat5
        obtain ⟨g5, c5, rfl, ho5'⟩ := oi1_of ho5
        rw [HM.out]
        have HB5 := kide (Below.grown HBA.out hg5 (by simp; omega) (fun j hj => (owr_typed HOA.out hj).2))
        have p5 : w5.cell? ⟨b, o + k, none⟩ = some (Value.int .i64 x) := by
          have h9 := HR.out.later HB5.out
          obtain ⟨-, -, h | ⟨b', o', e', hc⟩⟩ := h9
          · exact absurd HN.out (by rw [h]; simp; omega)
          · cases e'
            rw [hc k (by rw [HN.out]; exact hlt), HXK.out]
        rw [HM.out] at ho5'
        have O5 := kide ho5'
        clear ho5 hg5 hat5 ho5' HOA HBA p0 HO HB
        go_wp2_with fail
        obtain ⟨wo, hwo⟩ : ∃ wo, wo = w5 := ⟨_, rfl⟩
        subst hwo
        have lb5 := block_lt_of_cell p5
        have HPW : Hid (∀ u, Below w.heap.size w u → u.cell? ⟨b, o + k, none⟩ = some (Value.int .i64 x)) := fun u hu => by
          obtain ⟨-, -, h | ⟨b', o', e', hc⟩⟩ := HR.out.later hu
          · exact absurd HN.out (by rw [h]; simp; omega)
          · cases e'
            rw [hc k (by rw [HN.out]; exact hlt), HXK.out]
        have HFIN : Hid (risI [] (ks.take (k + 1)) = out.take (posI out x m) ++ x :: out.drop (posI out x m)) := by show _ = _; rw [HST.out, insI, HM.out]
        clear HHAS HST lb p5 lb5
        have tail : Hid (∀ (q : Nat) (y : Int) (u : World), q ≤ m → OI1 u w.heap.size (.slice (some ⟨g5, 0, none⟩) (m + 1) c5) (out.take q ++ y :: out.drop q) → posI out x m = q → OI1 (u.setCell ⟨g5, q, none⟩ (.int .i64 x)) w.heap.size (.slice (some ⟨g5, 0, none⟩) (m + 1) c5) (risI [] (ks.take (k + 1)))) := fun q y u hq ho hp => by
          have h9 := ho.set (i := q) (by rw [List.length_append, List.length_cons, List.length_take, List.length_drop, HM.out]; omega) x
          rw [hole_set _ _ _ (by rw [HM.out]; exact hq)] at h9
          rw [HFIN.out, hp]
          exact h9
        go_loopw [5] (fun s wr => ∃ (q : Nat) (y : Int), q ≤ m ∧ s = .int .i64 (q : Int) ∧ OI1 wr w.heap.size (.slice (some ⟨g5, 0, none⟩) (m + 1) c5) (out.take q ++ y :: out.drop q) ∧ posI out x m = posI out x q ∧ Below w.heap.size w wr) (fun s _ => (intOf s).toNat)
        case atStart => exact ⟨m, x, Nat.le_refl _, rfl, by rw [List.take_of_length_le (by rw [HM.out]; exact Nat.le_refl _), List.drop_eq_nil_of_le (by rw [HM.out]; exact Nat.le_refl _)]; exact O5.out, rfl, HB5.out⟩
        case round =>
          obtain ⟨q, y, hq, rfl, hoq, hpq, hbq⟩ := hrel
          have OQ := kide hoq
          have BQ := kide hbq
          have HPQ := kide hpq
          have pw := HPW.out wr hbq
          have hg5 := hoq.lt
          have hlL : (out.take q ++ y :: out.drop q).length = m + 1 := by rw [List.length_append, List.length_cons, List.length_take, List.length_drop, HM.out]; omega
          have hm1 : (m : Int) + 1 ≤ 9223372036854775807 := by omega
          have hqm : (q : Int) < ((m + 1 : Nat) : Int) := by omega
          clear hpq
          by_cases hq0 : q = 0
          · subst hq0
            have fz := hoq.froz 0
            obtain ⟨y0, hy0⟩ : ∃ y0, (out.take 0 ++ y :: out.drop 0)[0]? = some y0 := ⟨_, List.getElem?_eq_getElem (by rw [hlL]; omega)⟩
            have cz := hoq.cell hy0
            have HT := kide (fun N => tail.out 0 y (wr.drewN N) (Nat.zero_le _) (hoq.later (below_drewN (Below.refl _ _) N)) (by rw [HPQ.out]; rfl))
            clear hoq hbq hy0 hlL
            go_wp2_with fail
            go_quiet (fail)
            go_wp2_with fail
            exact ⟨⟨k + 1, by omega, by go_num, HT.out _, (below_drewN BQ.out _).setCell hg5.1 _⟩, by simp [intOf]; omega⟩
          · obtain ⟨j, hj⟩ : ∃ j, q = j + 1 := ⟨q - 1, by omega⟩
            obtain ⟨z, hz⟩ : ∃ z, out[j]? = some z := ⟨out[j]'(by rw [HM.out]; omega), List.getElem?_eq_getElem _⟩
            have cj := hoq.cell (hole_get out y (k := q) (j := j) (by omega) hz (by rw [HM.out]; exact hq))
            obtain ⟨yq, hyq⟩ : ∃ yq, (out.take q ++ y :: out.drop q)[q]? = some yq := ⟨_, List.getElem?_eq_getElem (by rw [hlL]; omega)⟩
            have cq := hoq.cell hyq
            have fq := hoq.froz q
            have j1 : (q : Int) - 1 = (j : Int) := by omega
            have j2 : IntKind.i64.wrap (j : Int) = (j : Int) := by rw [IntKind.wrap_i64]; omega
            have j3 : (j : Int) < ((m + 1 : Nat) : Int) := by omega
            have q1 : 0 < q := by omega
            have HJ := kide hj
            have HZ := kide hz
            have hpos : posI out x q = if z > x then posI out x j else q := by
              rw [hj]
              show (if out.getD j 0 > x then posI out x j else j + 1) = _
              rw [show out.getD j 0 = z by simp [List.getD, hz]]
            clear hyq hlL hz hj
            by_cases hzx : x < z
            · have HT : Hid (∀ N, OI1 ((wr.drewN N).setCell ⟨g5, q, none⟩ (.int .i64 z)) w.heap.size (.slice (some ⟨g5, 0, none⟩) (m + 1) c5) (out.take j ++ z :: out.drop j)) := fun N => by
                have h9 := (hoq.later (below_drewN (Below.refl _ _) N)).set (i := q) (by rw [List.length_append, List.length_cons, List.length_take, List.length_drop, HM.out]; omega) z
                rw [hole_set _ _ _ (by rw [HM.out]; exact hq), HJ.out, hole_step out HZ.out] at h9
                rw [HJ.out]
                exact h9
              have HPJ : Hid (posI out x m = posI out x j) := by show _ = _; rw [HPQ.out, hpos, if_pos hzx]
              clear hoq hbq hpos
              go_wp2_with fail
              go_quiet (fail)
              go_wp2_with fail
              exact ⟨⟨j, z, by omega, rfl, HT.out _, HPJ.out, (below_drewN BQ.out _).setCell hg5.1 _⟩, by simp [intOf]; omega⟩
            · have HT := kide (fun N => tail.out q y (wr.drewN N) hq (hoq.later (below_drewN (Below.refl _ _) N)) (by rw [HPQ.out, hpos, if_neg hzx]))
              clear hoq hbq hpos
              go_wp2_with fail
              go_quiet (fail)
              simp only [show decide (x < z) = false from decide_eq_false (by omega)]
              clear j1 j2 j3 cj q1 hq0 hzx
              go_wp2_with fail
              exact ⟨⟨k + 1, by omega, by go_num, HT.out _, (below_drewN BQ.out _).setCell hg5.1 _⟩, by simp [intOf]; omega⟩
    · have e : k = n := by omega
      subst e
      rw [List.take_of_length_le (by rw [HN.out]; exact Nat.le_refl _)] at HO
      clear ho
      go_wp2_with fail
      go_ret
      exact ⟨_, rfl, HO.out, HB.out⟩

end Go.Proofs.Ythoiajpbpoglfaa

/- What the given l10Crowd answers. -/
namespace Go.Proofs.Ythoiajpbpoglfaa
set_option linter.unusedVariables false
set_option linter.unusedSimpArgs false
open Go.RowKit Go.WideMaps Go.Maps

/-- The other node of a bar of this one. -/
def othC (x : Int) (s : Yc) : Option Int := if s.v = x then (if s.lo < 0 then none else some s.lo) else if s.lo = x then some s.v else none
def othR (x : Int) (ys : List Yc) : List Int := ys.filterMap (othC x)
def valC (x : Int) (s : Yc) : Bool := decide (s.v = x) && decide (s.lo < 0)
def valR (x : Int) (ys : List Yc) : List Yc := (ys.filter (valC x)).foldl putY []

theorem othR_step {ys : List Yc} {k : Nat} {s : Yc} (h : ys[k]? = some s) (x : Int) : othR x (ys.take (k + 1)) = othR x (ys.take k) ++ (othC x s).toList := by
  rw [List.take_add_one, h]
  unfold othR
  rw [List.filterMap_append]
  cases e : othC x s <;> simp [e]
theorem valR_step {ys : List Yc} {k : Nat} {s : Yc} (h : ys[k]? = some s) (x : Int) : valR x (ys.take (k + 1)) = if valC x s = true then putY (valR x (ys.take k)) s else valR x (ys.take k) := by
  rw [List.take_add_one, h]
  unfold valR
  rw [List.filter_append, List.foldl_append]
  cases e : valC x s <;> simp [e]
theorem othR_len (x : Int) (ys : List Yc) : (othR x ys).length ≤ ys.length := List.length_filterMap_le _ _
theorem putY_len (l : List Yc) (s : Yc) : (putY l s).length ≤ l.length + 1 := by
  unfold putY; split <;> simp
theorem foldY_len (xs : List Yc) : ∀ l, (xs.foldl putY l).length ≤ l.length + xs.length := by
  induction xs with
  | nil => intro l; simp
  | cons x t ih =>
    intro l
    have h1 := ih (putY l x)
    have h2 := putY_len l x
    simp only [List.foldl_cons, List.length_cons]
    omega
theorem valR_len (x : Int) (ys : List Yc) : (valR x ys).length ≤ ys.length := by
  have h1 := foldY_len (ys.filter (valC x)) []
  have h2 := List.length_filter_le (valC x) ys
  unfold valR
  simp at h1
  omega
theorem OI1.ksb {w w' : World} {B : Nat} {v : Value} {xs : List Int} (h : OI1 w B v xs) (hk : Ksb w w') : OI1 w' B v xs := owr_move h (fun b hb => by obtain ⟨⟨cur, hc⟩, -⟩ := owr_typed h hb; exact hk.stay b _ _ _ hc (by decide) (by decide))
theorem OB4.ksh {w w' : World} {B : Nat} {v : Value} {l : List Yg} (h : OB4 w B v l) (hk : Ksh w w') : OB4 w' B v l := h.move (fun b hb => by obtain ⟨cur, hc⟩ := h.typed hb; exact hk.stay b _ _ _ hc (by decide) (by decide))
theorem nw_ksh {w w' : World} {lo : Nat} {a : Option Addr} {xs : List Nat} (h : Nw w lo a xs) (hk : Ksh w w') : Nw w' lo a xs := Nw.kept h fun k cur hc => hk.stay k _ _ _ hc (by decide) (by decide)
theorem OB4.empty (w : World) (B : Nat) (h : B ≤ w.heap.size) : OB4 (w.alloc (.cells #[] 86)) B (.slice (some ⟨w.heap.size, 0, Option.none⟩) 0 0) [] := World.ownsRow_made w #[] 0 h (Nat.zero_le _) (by simp)
theorem okY_at {w : World} {b o : Nat} {x : Yg} (h : YgAt w b o x) : okY x.ct := by
  obtain ⟨-, hr, h1, h2, h3⟩ := h
  exact ⟨h1, h2, h3, hr.2.1, hr.1⟩

set_option maxHeartbeats 4000000 in
set_option maxRecDepth 100000 in
theorem l10Crowd_any (z : Gz) (x : Int) (w : World) (hz : RdG w z) (hgd : ∀ y ∈ z.bs, y.ct.lo < 0 → 0 < y.ct.ws.length) (hb1000 : z.bs.length ≤ 1000) :
    Calls Try.prog 27 #[z.val, .int .i64 x] w fun e w' => e = .returned (.int .i64 (((risI [] (othR x (z.bs.map Yg.ct))).length : Int) + ((valR x (z.bs.map Yg.ct)).length : Int))) ∧ Below w.heap.size w w' := by
  obtain ⟨a1, c1, ks, a2, c2, bs⟩ := z
  obtain ⟨hz1, hz2⟩ := hz
  simp only [Gz.val] at *
  have HGD := kide hgd
  have hb0 : Below w.heap.size w (w.alloc (Obj.cells #[Value.slice a1 ks.length c1, Value.slice a2 bs.length c2] 32)) := (Below.refl _ _).alloc (Nat.le_refl _) _
  have X0 := kide (Bz.new w #[Value.slice a1 ks.length c1, Value.slice a2 bs.length c2] 32)
  have HZ2 := kide (hz2.later hb0)
  have BW := kide hb0
  obtain ⟨n1, e1⟩ : ∃ n1, ks.length = n1 := ⟨_, rfl⟩
  obtain ⟨n2, e2⟩ : ∃ n2, bs.length = n2 := ⟨_, rfl⟩
  rw [e1, e2] at X0 HZ2 BW
  rw [e2] at hb1000
  rw [e1, e2]
  have HE2 := kide e2
  obtain ⟨RR, hRR⟩ : ∃ RR : Int, (((risI [] (othR x (bs.map Yg.ct))).length : Int) + ((valR x (bs.map Yg.ct)).length : Int)) = RR := ⟨_, rfl⟩
  rw [hRR]
  have HRR := kide hRR
  clear hz1 hz2 hb0 e1 e2 hgd hRR
  go_enter Try.func27, Try.ntmps27
  go_wp2_with fail
  have OO0 := kide (OI1.empty (w.alloc (Obj.cells #[Value.slice a1 n1 c1, Value.slice a2 n2 c2] 32)) _ (Nat.le_refl _))
  have hsz1 : (w.alloc (Obj.cells #[Value.slice a1 n1 c1, Value.slice a2 n2 c2] 32)).heap.size = w.heap.size + 1 := by simp
  have hbe : Below ((w.alloc (Obj.cells #[Value.slice a1 n1 c1, Value.slice a2 n2 c2] 32)).alloc (Obj.cells #[] 2)).heap.size ((w.alloc (Obj.cells #[Value.slice a1 n1 c1, Value.slice a2 n2 c2] 32)).alloc (Obj.cells #[] 2)) (((w.alloc (Obj.cells #[Value.slice a1 n1 c1, Value.slice a2 n2 c2] 32)).alloc (Obj.cells #[] 2)).alloc (Obj.cells #[] 86)) := (Below.refl _ _).alloc (Nat.le_refl _) _
  have OO1 := kide (OO0.out.later hbe)
  have OV1 := kide (OB4.empty ((w.alloc (Obj.cells #[Value.slice a1 n1 c1, Value.slice a2 n2 c2] 32)).alloc (Obj.cells #[] 2)) (w.alloc (Obj.cells #[Value.slice a1 n1 c1, Value.slice a2 n2 c2] 32)).heap.size (by simp))
  have BV1 : Hid (Below (w.alloc (Obj.cells #[Value.slice a1 n1 c1, Value.slice a2 n2 c2] 32)).heap.size (w.alloc (Obj.cells #[Value.slice a1 n1 c1, Value.slice a2 n2 c2] 32)) (((w.alloc (Obj.cells #[Value.slice a1 n1 c1, Value.slice a2 n2 c2] 32)).alloc (Obj.cells #[] 2)).alloc (Obj.cells #[] 86))) := ((Below.refl _ _).alloc (Nat.le_refl _) _).alloc (by simp) _
  rw [show ((w.alloc (Obj.cells #[Value.slice a1 n1 c1, Value.slice a2 n2 c2] 32)).alloc (Obj.cells #[] 2)).heap.size = w.heap.size + 1 + 1 by simp] at OV1
  rw [hsz1] at OO1
  clear OO0 hbe
  generalize ((w.alloc (Obj.cells #[Value.slice a1 n1 c1, Value.slice a2 n2 c2] 32)).alloc (Obj.cells #[] 2)).alloc (Obj.cells #[] 86) = V at *
  rw [← hsz1] at OO1
  generalize w.alloc (Obj.cells #[Value.slice a1 n1 c1, Value.slice a2 n2 c2] 32) = W at *
  obtain ⟨b0, hb0⟩ : ∃ b0, w.heap.size = b0 := ⟨_, rfl⟩
  rw [hb0] at X0 OV1 hsz1
  simp only [hb0]
  rw [hsz1] at OO1
  have HSZ1 := kide hsz1
  have OO2 : Hid (OI1 V W.heap.size (.slice (some ⟨b0 + 1, 0, none⟩) 0 0) []) := by show OI1 _ _ _ _; rw [hsz1]; exact OO1.out
  clear hb0 hsz1
  have HIN : Hid (∀ y ∈ othR x (bs.map Yg.ct), in64 y) := fun y hy => by
    obtain ⟨s, hs, es⟩ := List.mem_filterMap.1 hy
    obtain ⟨g, hg, rfl⟩ := List.mem_map.1 hs
    obtain ⟨-, h | ⟨b, o, e, hc⟩⟩ := HZ2.out
    · rw [h] at hg; cases hg
    · obtain ⟨j, hj, ej⟩ := List.mem_iff_getElem.1 hg
      obtain ⟨-, -, h1, h2, h3⟩ := hc j g (by rw [List.getElem?_eq_getElem hj, ej])
      unfold othC at es
      split at es
      · split at es
        · cases es
        · cases es; exact h2
      · split at es
        · cases es; exact h1
        · cases es
  go_loopw [6, 5, 7] (fun vv vo q wr => ∃ (k : Nat) (l : List Yg), k ≤ n2 ∧ q = .int .i64 (k : Int) ∧ OI1 wr W.heap.size vo (othR x ((bs.map Yg.ct).take k)) ∧ OB4 wr W.heap.size vv l ∧ l.map Yg.ct = valR x ((bs.map Yg.ct).take k) ∧ (∀ y ∈ l, Nw wr W.heap.size y.a y.ct.ws ∧ okY y.ct) ∧ Below W.heap.size W wr) (fun _ _ q _ => n2 - (intOf q).toNat)
  case atStart => exact ⟨0, [], Nat.zero_le _, rfl, OO2.out, OV1.out, rfl, by simp, BV1.out⟩
  case round =>
    obtain ⟨k, l, hk, rfl, hoo, hov, hlc, hlw, hb⟩ := hrel
    have HOO := kide hoo
    have HOV := kide hov
    have HLC := kide hlc
    have HLW := kide hlw
    have HB := kide hb
    have XG := kide (X0.out.later hb)
    have gg1 : wr.cell? ⟨b0, 1, none⟩ = some (Value.slice a2 n2 c2) := XG.out.cell 1
    have hlb := XG.out.lt
    have hl1 : l.length ≤ 1000 := by have h9 := congrArg List.length hlc; have h8 := valR_len x ((bs.map Yg.ct).take k); rw [List.length_map] at h9; rw [List.length_take] at h8; omega
    have hl2 : (othR x ((bs.map Yg.ct).take k)).length ≤ 1000 := by have h8 := othR_len x ((bs.map Yg.ct).take k); rw [List.length_take] at h8; omega
    clear OO1 OO2 OV1 BV1
    by_cases hlt : k < n2
    · have i0 : (k : Int) < (n2 : Int) := by omega
      obtain ⟨y, gy⟩ : ∃ y, bs[k]? = some y := ⟨bs[k]'(by rw [HE2.out]; exact hlt), List.getElem?_eq_getElem _⟩
      have gc : (bs.map Yg.ct)[k]? = some y.ct := by simp [gy]
      have hso := othR_step gc x
      have hsv := valR_step gc x
      have hws := HGD.out y (List.mem_of_getElem? gy)
      obtain ⟨-, h | ⟨b, o, rfl, hc⟩⟩ := HZ2.out.later hb
      · rw [h] at gy; simp at gy
      have hya := hc k y gy
      have hoky := okY_at hya
      obtain ⟨⟨p0, p1, p2, p3⟩, pr, -⟩ := hya
      obtain ⟨⟨xv, xlo, xbw, xws⟩, xa, xc⟩ := y
      simp only [Yg.hd] at p0 p1 p2 p3 pr hws hoky
      obtain ⟨xn, hxn⟩ : ∃ xn, xws.length = xn := ⟨_, rfl⟩
      rw [hxn] at p3 hws
      have HXN := kide hxn
      have hbx : Below wr.heap.size wr (wr.alloc (Obj.cells #[Value.int .i64 xv, Value.int .i64 xlo, Value.int .i64 xbw, Value.slice xa xn xc] 86)) := (Below.refl _ _).alloc (Nat.le_refl _) _
      clear hxn hc gy gc hoo hov hlc hlw hb
      by_cases hvx : xv = x
      · subst hvx
        have hee : (xv == xv) = true := by simp
        by_cases hl0 : xlo < 0
        · have HSO : Hid (othR xv ((bs.map Yg.ct).take (k + 1)) = othR xv ((bs.map Yg.ct).take k)) := by show _ = _; rw [hso]; simp [othC, hl0]
          have HSV : Hid (valR xv ((bs.map Yg.ct).take (k + 1)) = putY (valR xv ((bs.map Yg.ct).take k)) ⟨xv, xlo, xbw, xws⟩) := by show _ = _; rw [hsv]; simp [valC, hl0]
          have hpp := l9Put_any W.heap.size _ l ⟨⟨xv, xlo, xbw, xws⟩, xa, xc⟩ _ (HOV.out.later hbx) (fun y hy => ⟨(HLW.out y hy).1.later hbx, (HLW.out y hy).2⟩) (pr.later hbx) hoky (by simp only []; rw [HXN.out]; exact hws hl0) (by omega) (Nat.le_trans HB.out.size hbx.size)
          simp only [Yg.val, HXN.out] at hpp
          have HPP := kide hpp
          have BBX := kide (HB.out.trans (hbx.mono HB.out.size))
          have OOX := kide (HOO.out.later hbx)
          clear hpp hso hsv hbx pr hws hoky
          go_wp2_with fail
          refine Calls.mono HPP.out ?_
          rintro e w5 ⟨v5, l5, rfl, ho5, hl5, hw5, hb5, hk5⟩
          have OV5 := kide ho5
          have HL5 := kide hl5
          have HW5 := kide hw5
          have BB5 := kide (BBX.out.trans hb5)
          have OO5 := kide (OOX.out.ksb hk5)
          clear ho5 hl5 hw5 hb5 hk5 HPP BBX OOX
          go_wp2_with fail
          go_roundw
          case rel => exact ⟨k + 1, l5, by omega, by go_num, by rw [HSO.out]; exact OO5.out, OV5.out, by rw [HL5.out, HSV.out, HLC.out], HW5.out, BB5.out⟩
          case measure => simp [intOf]; omega
        · have HSO : Hid (othR xv ((bs.map Yg.ct).take (k + 1)) = othR xv ((bs.map Yg.ct).take k) ++ [xlo]) := by show _ = _; rw [hso]; simp [othC, hl0]
          have HSV : Hid (valR xv ((bs.map Yg.ct).take (k + 1)) = valR xv ((bs.map Yg.ct).take k)) := by show _ = _; rw [hsv]; simp [valC, hl0]
          clear hso hsv pr hws hoky
          have hoa := HOO.out.later hbx
          have hbs : Below (wr.alloc (Obj.cells #[Value.int .i64 xv, Value.int .i64 xlo, Value.int .i64 xbw, Value.slice xa xn xc] 86)).heap.size (wr.alloc (Obj.cells #[Value.int .i64 xv, Value.int .i64 xlo, Value.int .i64 xbw, Value.slice xa xn xc] 86)) ((wr.alloc (Obj.cells #[Value.int .i64 xv, Value.int .i64 xlo, Value.int .i64 xbw, Value.slice xa xn xc] 86)).alloc (Obj.cells #[Value.int .i64 xlo] 2)) := (Below.refl _ _).alloc (Nat.le_refl _) _
          have hob := hoa.later hbs
          unfold OI1 at hob
          rw [show (othR xv ((bs.map Yg.ct).take k)).length = ((othR xv ((bs.map Yg.ct).take k)).map (Value.int .i64)).length by simp] at hob
          have HOA := kide hob
          have KS1 := kide ((Ksh.of hbx).trans (Ksh.of hbs))
          have BB1 := kide ((HB.out.trans (hbx.mono HB.out.size)).trans (hbs.mono (by have := HB.out.size; have := hbx.size; omega)))
          have hlm : ((othR xv ((bs.map Yg.ct).take k)).map (Value.int .i64)).length ≤ 1073741824 := by rw [List.length_map]; omega
          have hBs : Hid (W.heap.size ≤ ((wr.alloc (Obj.cells #[Value.int .i64 xv, Value.int .i64 xlo, Value.int .i64 xbw, Value.slice xa xn xc] 86)).alloc (Obj.cells #[Value.int .i64 xlo] 2)).heap.size) := BB1.out.size
          have q0 : Hid (((wr.alloc (Obj.cells #[Value.int .i64 xv, Value.int .i64 xlo, Value.int .i64 xbw, Value.slice xa xn xc] 86)).alloc (Obj.cells #[Value.int .i64 xlo] 2)).cell? ⟨wr.heap.size + 1, 0, none⟩ = some (.int .i64 xlo)) := by
            have h9 := (Bz.new (wr.alloc (Obj.cells #[Value.int .i64 xv, Value.int .i64 xlo, Value.int .i64 xbw, Value.slice xa xn xc] 86)) #[Value.int .i64 xlo] 2).cell 0
            rw [show (wr.alloc (Obj.cells #[Value.int .i64 xv, Value.int .i64 xlo, Value.int .i64 xbw, Value.slice xa xn xc] 86)).heap.size = wr.heap.size + 1 by simp] at h9
            exact h9
          clear hoa hbs hob
          go_wp2_with (at_builtin; refine wpList_appI8 rfl _ _ rfl W.heap.size _ ((othR xv ((bs.map Yg.ct).take k)).map (Value.int .i64)) xlo rfl HOA.out _ rfl q0.out hlm hBs.out ?_)
          intro v5 w5 ho5 hg5 hat5
          have HK5 := kide (KS1.out.trans (Ksh.grown hg5 HOA.out))
          have HO5 : Hid (OI1 w5 W.heap.size v5 (othR xv ((bs.map Yg.ct).take k) ++ [xlo])) := by
            show OI1 _ _ _ _
            unfold OI1
            simpa using ho5
          have HB5 := kide (Below.grown BB1.out hg5 hBs.out (fun j hj => (owr_typed HOA.out hj).2))
          clear ho5 hg5 hat5 HOA BB1 q0 KS1
          go_wp2_with fail
          go_roundw
          case rel => exact ⟨k + 1, l, by omega, by go_num, by rw [HSO.out]; exact HO5.out, HOV.out.ksh HK5.out, by rw [HSV.out]; exact HLC.out, fun y hy => ⟨nw_ksh (HLW.out y hy).1 HK5.out, (HLW.out y hy).2⟩, HB5.out⟩
          case measure => simp [intOf]; omega
      · have hee : (xv == x) = false := by simp [hvx]
        by_cases hlx : xlo = x
        · subst hlx
          have hff : (xlo == xlo) = true := by simp
          have HSO : Hid (othR xlo ((bs.map Yg.ct).take (k + 1)) = othR xlo ((bs.map Yg.ct).take k) ++ [xv]) := by show _ = _; rw [hso]; simp [othC, hvx]
          have HSV : Hid (valR xlo ((bs.map Yg.ct).take (k + 1)) = valR xlo ((bs.map Yg.ct).take k)) := by show _ = _; rw [hsv]; simp [valC, hvx]
          clear hso hsv pr hws hoky hvx
          have hoa := HOO.out.later hbx
          have hbs : Below (wr.alloc (Obj.cells #[Value.int .i64 xv, Value.int .i64 xlo, Value.int .i64 xbw, Value.slice xa xn xc] 86)).heap.size (wr.alloc (Obj.cells #[Value.int .i64 xv, Value.int .i64 xlo, Value.int .i64 xbw, Value.slice xa xn xc] 86)) ((wr.alloc (Obj.cells #[Value.int .i64 xv, Value.int .i64 xlo, Value.int .i64 xbw, Value.slice xa xn xc] 86)).alloc (Obj.cells #[Value.int .i64 xv] 2)) := (Below.refl _ _).alloc (Nat.le_refl _) _
          have hob := hoa.later hbs
          unfold OI1 at hob
          rw [show (othR xlo ((bs.map Yg.ct).take k)).length = ((othR xlo ((bs.map Yg.ct).take k)).map (Value.int .i64)).length by simp] at hob
          have HOA := kide hob
          have KS1 := kide ((Ksh.of hbx).trans (Ksh.of hbs))
          have BB1 := kide ((HB.out.trans (hbx.mono HB.out.size)).trans (hbs.mono (by have := HB.out.size; have := hbx.size; omega)))
          have hlm : ((othR xlo ((bs.map Yg.ct).take k)).map (Value.int .i64)).length ≤ 1073741824 := by rw [List.length_map]; omega
          have hBs : Hid (W.heap.size ≤ ((wr.alloc (Obj.cells #[Value.int .i64 xv, Value.int .i64 xlo, Value.int .i64 xbw, Value.slice xa xn xc] 86)).alloc (Obj.cells #[Value.int .i64 xv] 2)).heap.size) := BB1.out.size
          have q0 : Hid (((wr.alloc (Obj.cells #[Value.int .i64 xv, Value.int .i64 xlo, Value.int .i64 xbw, Value.slice xa xn xc] 86)).alloc (Obj.cells #[Value.int .i64 xv] 2)).cell? ⟨wr.heap.size + 1, 0, none⟩ = some (.int .i64 xv)) := by
            have h9 := (Bz.new (wr.alloc (Obj.cells #[Value.int .i64 xv, Value.int .i64 xlo, Value.int .i64 xbw, Value.slice xa xn xc] 86)) #[Value.int .i64 xv] 2).cell 0
            rw [show (wr.alloc (Obj.cells #[Value.int .i64 xv, Value.int .i64 xlo, Value.int .i64 xbw, Value.slice xa xn xc] 86)).heap.size = wr.heap.size + 1 by simp] at h9
            exact h9
          clear hoa hbs hob
          go_wp2_with (at_builtin; refine wpList_appI8 rfl _ _ rfl W.heap.size _ ((othR xlo ((bs.map Yg.ct).take k)).map (Value.int .i64)) xv rfl HOA.out _ rfl q0.out hlm hBs.out ?_)
          intro v5 w5 ho5 hg5 hat5
          have HK5 := kide (KS1.out.trans (Ksh.grown hg5 HOA.out))
          have HO5 : Hid (OI1 w5 W.heap.size v5 (othR xlo ((bs.map Yg.ct).take k) ++ [xv])) := by
            show OI1 _ _ _ _
            unfold OI1
            simpa using ho5
          have HB5 := kide (Below.grown BB1.out hg5 hBs.out (fun j hj => (owr_typed HOA.out hj).2))
          clear ho5 hg5 hat5 HOA BB1 q0 KS1
          go_wp2_with fail
          go_roundw
          case rel => exact ⟨k + 1, l, by omega, by go_num, by rw [HSO.out]; exact HO5.out, HOV.out.ksh HK5.out, by rw [HSV.out]; exact HLC.out, fun y hy => ⟨nw_ksh (HLW.out y hy).1 HK5.out, (HLW.out y hy).2⟩, HB5.out⟩
          case measure => simp [intOf]; omega
        · have hff : (xlo == x) = false := by simp [hlx]
          have HSO : Hid (othR x ((bs.map Yg.ct).take (k + 1)) = othR x ((bs.map Yg.ct).take k)) := by show _ = _; rw [hso]; simp [othC, hvx, hlx]
          have HSV : Hid (valR x ((bs.map Yg.ct).take (k + 1)) = valR x ((bs.map Yg.ct).take k)) := by show _ = _; rw [hsv]; simp [valC, hvx]
          have BBX := kide (HB.out.trans (hbx.mono HB.out.size))
          have OOX := kide (HOO.out.later hbx)
          have OVX := kide (HOV.out.later hbx)
          have HWX := kide (fun y hy => And.intro ((HLW.out y hy).1.later hbx) (HLW.out y hy).2)
          clear hso hsv hbx pr hws hoky hvx hlx
          go_wp2_with fail
          go_roundw
          case rel => exact ⟨k + 1, l, by omega, by go_num, by rw [HSO.out]; exact OOX.out, OVX.out, by rw [HSV.out]; exact HLC.out, HWX.out, BBX.out⟩
          case measure => simp [intOf]; omega
    · have e : k = n2 := by omega
      subst e
      rw [List.take_of_length_le (by rw [List.length_map, HE2.out]; exact Nat.le_refl _)] at HOO HLC hl2
      obtain ⟨av, cv, rfl⟩ := HOO.out.form
      obtain ⟨bv, dv, rfl⟩ := HOV.out.form
      have HRS := kide (l7Rising_any av cv _ (othR x (bs.map Yg.ct)) wr (HOO.out.rd (by omega) HIN.out) rfl)
      have hrl := risI_len (othR x (bs.map Yg.ct)) []
      have hvl : l.length = (valR x (bs.map Yg.ct)).length := by have h9 := congrArg List.length HLC.out; rw [List.length_map] at h9; exact h9
      generalize risI [] (othR x (bs.map Yg.ct)) = RI at *
      generalize (othR x (bs.map Yg.ct)).length = on at *
      generalize (valR x (bs.map Yg.ct)).length = vn at *
      rw [hvl]
      rw [hvl] at hl1
      simp only [List.length_nil, Nat.zero_add] at hrl
      clear hoo hov hlc hlw hb hvl
      go_wp2_with fail
      refine Calls.mono HRS.out ?_
      rintro e w5 ⟨v5, rfl, ho5, hb5⟩
      obtain ⟨a5, c5, rfl⟩ := ho5.form
      have B5 := kide (BW.out.trans ((HB.out.trans (hb5.mono HB.out.size)).mono BW.out.size))
      have hrr := HRR.out
      have hi1 : (RI.length : Int) ≤ 1000 := by omega
      have hi2 : (vn : Int) ≤ 1000 := by omega
      clear ho5 hb5 HRS
      go_wp2_with fail
      go_ret
      exact ⟨by rw [← hrr]; go_num, B5.out⟩

end Go.Proofs.Ythoiajpbpoglfaa

/- How many bars a node has: both ways of counting are one. No program in sight. -/
namespace Go.Proofs.Ythoiajpbpoglfaa
set_option linter.unusedVariables false
set_option linter.unusedSimpArgs false
open Go.RowKit

/-- Each once, in the order in which they came. -/
def setY (l : List Yc) (xs : List Yc) : List Yc := xs.foldl putY l

theorem putG_ct (l : List Yg) (x : Yg) : (putG l x).map Yg.ct = putY (l.map Yg.ct) x.ct := by
  unfold putG putY
  split <;> simp
theorem setG_ct (xs : List Yg) : ∀ l, (setG l xs).map Yg.ct = setY (l.map Yg.ct) (xs.map Yg.ct) := by
  induction xs with
  | nil => intro l; rfl
  | cons x t ih =>
    intro l
    have h := ih (putG l x)
    rw [putG_ct] at h
    exact h

theorem setY_nodup (xs : List Yc) : ∀ l : List Yc, l.Nodup → (setY l xs).Nodup := by
  induction xs with
  | nil => intro l h; exact h
  | cons x t ih =>
    intro l h
    refine ih (putY l x) ?_
    unfold putY
    split
    · exact h
    · rename_i hn
      refine List.nodup_append.2 ⟨h, by simp, fun a ha b hb => ?_⟩
      simp at hb
      subst hb
      intro e; subst e; exact hn ha
theorem setY_mem (xs : List Yc) : ∀ (l : List Yc) (s : Yc), s ∈ setY l xs ↔ s ∈ l ∨ s ∈ xs := by
  induction xs with
  | nil => intro l s; simp [setY]
  | cons x t ih =>
    intro l s
    rw [show setY l (x :: t) = setY (putY l x) t from rfl, ih]
    unfold putY
    by_cases e : x ∈ l
    · rw [if_pos e]
      constructor
      · rintro (h | h)
        · exact .inl h
        · exact .inr (List.mem_cons_of_mem _ h)
      · rintro (h | h)
        · exact .inl h
        · rcases List.mem_cons.1 h with rfl | h
          · exact .inl e
          · exact .inr h
    · rw [if_neg e]
      simp only [List.mem_append, List.mem_cons, List.not_mem_nil, or_false]
      constructor
      · rintro ((h | h) | h)
        · exact .inl h
        · exact .inr (.inl h)
        · exact .inr (.inr h)
      · rintro (h | h | h)
        · exact .inl (.inl h)
        · exact .inl (.inr h)
        · exact .inr h

theorem insI_nodup {out : List Int} {x : Int} (h : out.Nodup) (hx : x ∉ out) : (insI out x).Nodup := by
  unfold insI
  generalize posI out x out.length = p
  have h' := h
  rw [← List.take_append_drop p out] at h'
  obtain ⟨h1, h2, h3⟩ := List.nodup_append.1 h'
  have hd : x ∉ out.drop p := fun hm => hx (List.mem_of_mem_drop hm)
  have ht : x ∉ out.take p := fun hm => hx (List.mem_of_mem_take hm)
  refine List.nodup_append.2 ⟨h1, List.nodup_cons.2 ⟨hd, h2⟩, fun a ha b hb => ?_⟩
  rcases List.mem_cons.1 hb with rfl | hb
  · intro e; subst e; exact ht ha
  · exact h3 a ha b hb
theorem risI_nodup : ∀ (xs out : List Int), out.Nodup → (risI out xs).Nodup
  | [], out, h => h
  | x :: t, out, h => by
    rw [risI]
    refine risI_nodup t _ ?_
    split
    · exact h
    · exact insI_nodup h (by assumption)

/-- How often a bar counts for a node. -/
def cntC (i : Nat) (s : Yc) : Int := if s.lo = -1 then (if s.v.toNat = i then 1 else 0) else (if s.v.toNat = i then 1 else 0) + (if s.lo.toNat = i then 1 else 0)
theorem stepC_cnt (cr : Nat → Int) (s : Yc) (i : Nat) : stepC cr s i = cr i + cntC i s := by
  unfold cntC
  by_cases e : s.lo = -1
  · rw [show stepC cr s = _ from if_pos e, if_pos e]
    unfold upd
    by_cases h1 : i = s.v.toNat
    · subst h1; simp
    · rw [if_neg h1, if_neg (fun h => h1 h.symm)]; omega
  · rw [show stepC cr s = _ from if_neg e, if_neg e]
    unfold upd
    by_cases h2 : i = s.lo.toNat
    · subst h2
      by_cases h1 : s.lo.toNat = s.v.toNat
      · simp [h1]; omega
      · rw [if_pos rfl, if_neg h1, if_neg (fun h => h1 h.symm), if_pos rfl]; omega
    · by_cases h1 : i = s.v.toNat
      · subst h1
        rw [if_neg h2, if_pos rfl, if_pos rfl, if_neg (fun h => h2 h.symm)]; omega
      · rw [if_neg h2, if_neg h1, if_neg (fun h => h1 h.symm), if_neg (fun h => h2 h.symm)]; omega
theorem crF_sum (i : Nat) : ∀ (ys : List Yc) (cr : Nat → Int), (ys.foldl stepC cr) i = cr i + (ys.map (cntC i)).sum
  | [], cr => by simp
  | s :: t, cr => by
    rw [List.foldl_cons, crF_sum i t, stepC_cnt, List.map_cons, List.sum_cons]; omega

theorem nodup_sub_len {α : Type} [DecidableEq α] : ∀ (l1 l2 : List α), l1.Nodup → (∀ a ∈ l1, a ∈ l2) → l1.length ≤ l2.length
  | [], _, _, _ => Nat.zero_le _
  | x :: t, l2, h, hs => by
    obtain ⟨hx, ht⟩ := List.nodup_cons.1 h
    have h2 := nodup_sub_len t (l2.erase x) ht (fun a ha => (List.mem_erase_of_ne (fun e => hx (by rw [← e]; exact ha))).2 (hs a (List.mem_cons_of_mem _ ha)))
    have hm := hs x (by simp)
    rw [List.length_erase_of_mem hm] at h2
    have := List.length_pos_of_mem hm
    simp only [List.length_cons]
    omega
theorem nodup_len {α : Type} [DecidableEq α] {l1 l2 : List α} (h1 : l1.Nodup) (h2 : l2.Nodup) (h : ∀ a, a ∈ l1 ↔ a ∈ l2) : l1.length = l2.length :=
  Nat.le_antisymm (nodup_sub_len l1 l2 h1 (fun a => (h a).1)) (nodup_sub_len l2 l1 h2 (fun a => (h a).2))
theorem nodup_fm {α β : Type} {f : α → Option β} : ∀ {l : List α}, l.Nodup → (∀ s ∈ l, ∀ t ∈ l, ∀ b, f s = some b → f t = some b → s = t) → (l.filterMap f).Nodup
  | [], _, _ => by simp
  | x :: t, h, hi => by
    obtain ⟨hx, ht⟩ := List.nodup_cons.1 h
    have h2 := nodup_fm ht (fun s hs u hu => hi s (List.mem_cons_of_mem _ hs) u (List.mem_cons_of_mem _ hu))
    rw [List.filterMap_cons]
    cases e : f x with
    | none => exact h2
    | some b =>
      refine List.nodup_cons.2 ⟨fun hm => ?_, h2⟩
      obtain ⟨u, hu, eu⟩ := List.mem_filterMap.1 hm
      exact hx (by rw [hi x (by simp) u (List.mem_cons_of_mem _ hu) b e eu]; exact hu)

/-- A bar of a right graph. -/
def gdB (n : Nat) (s : Yc) : Prop := (0 ≤ s.v ∧ s.v < n) ∧ (s.lo = -1 ∨ (0 ≤ s.lo ∧ s.lo < n ∧ s.lo ≠ s.v ∧ s.bw = 0 ∧ s.ws = []))
/-- .. with its lesser node ahead. -/
def gdN (s : Yc) : Prop := s.lo = -1 ∨ s.v < s.lo

theorem gdB_nrm {n : Nat} {s : Yc} (h : gdB n s) : gdB n (nrmC s) ∧ gdN (nrmC s) := by
  obtain ⟨⟨h1, h2⟩, h3⟩ := h
  unfold nrmC
  by_cases e : s.lo = -1
  · rw [if_pos e]
    exact ⟨⟨⟨h1, h2⟩, .inl e⟩, .inl e⟩
  · rw [if_neg e]
    rcases h3 with h3 | ⟨h4, h5, h6, h7, h8⟩
    · exact absurd h3 e
    · refine ⟨⟨⟨by simp only []; omega, by simp only []; omega⟩, .inr ⟨by simp only []; omega, by simp only []; omega, by simp only []; omega, h7, h8⟩⟩, .inr (by simp only []; omega)⟩

theorem othC_nrm {n : Nat} {s : Yc} (h : gdB n s) (x : Int) : othC x (nrmC s) = othC x s := by
  obtain ⟨⟨h1, h2⟩, h3⟩ := h
  unfold nrmC
  by_cases e : s.lo = -1
  · rw [if_pos e]
  · rw [if_neg e]
    rcases h3 with h3 | ⟨h4, h5, h6, h7, h8⟩
    · exact absurd h3 e
    · unfold othC
      simp only []
      by_cases hle : s.v ≤ s.lo
      · rw [show min s.v s.lo = s.v by omega, show max s.v s.lo = s.lo by omega]
      · rw [show min s.v s.lo = s.lo by omega, show max s.v s.lo = s.v by omega]
        by_cases a1 : s.lo = x
        · rw [if_pos a1, if_neg (by omega), if_neg (by omega), if_pos a1]
        · rw [if_neg a1]
          by_cases a2 : s.v = x
          · rw [if_pos a2, if_pos a2, if_neg (by omega)]
          · rw [if_neg a2, if_neg a2, if_neg a1]

theorem valC_nrm {n : Nat} {s t : Yc} (h : gdB n s) (x : Int) (e : nrmC s = t) (hv : valC x t = true) : s = t := by
  obtain ⟨⟨h1, h2⟩, h3⟩ := h
  unfold nrmC at e
  by_cases e1 : s.lo = -1
  · rw [if_pos e1] at e; exact e
  · rw [if_neg e1] at e
    rcases h3 with h3 | ⟨h4, h5, -⟩
    · exact absurd h3 e1
    · subst e
      simp [valC] at hv
      omega
theorem valC_keep {s : Yc} {n : Nat} (h : gdB n s) {x : Int} (hv : valC x s = true) : nrmC s = s := by
  simp [valC] at hv
  unfold nrmC
  rcases h.2 with h3 | ⟨h4, -⟩
  · rw [if_pos h3]
  · omega

theorem othC_inj {n : Nat} {s t : Yc} (hs : gdB n s) (ht : gdB n t) (ns : gdN s) (nt : gdN t) {x b : Int} (hx0 : 0 ≤ x) (h1 : othC x s = some b) (h2 : othC x t = some b) : s = t := by
  obtain ⟨⟨s1, s2⟩, s3⟩ := hs
  obtain ⟨⟨t1, t2⟩, t3⟩ := ht
  have key : ∀ u : Yc, 0 ≤ u.v → gdN u → (u.lo = -1 ∨ (0 ≤ u.lo ∧ u.lo < n ∧ u.lo ≠ u.v ∧ u.bw = 0 ∧ u.ws = [])) → othC x u = some b → u.v = min x b ∧ u.lo = max x b ∧ u.bw = 0 ∧ u.ws = [] := by
    intro u u1 nu u3 hu
    unfold othC at hu
    rcases u3 with u3 | ⟨u4, u5, u6, u7, u8⟩
    · by_cases a1 : u.v = x
      · rw [if_pos a1, if_pos (by omega)] at hu; cases hu
      · rw [if_neg a1] at hu
        by_cases a2 : u.lo = x
        · rw [if_pos a2] at hu
          cases hu
          omega
        · rw [if_neg a2] at hu; cases hu
    · rcases nu with nu | nu
      · omega
      · by_cases a1 : u.v = x
        · rw [if_pos a1, if_neg (by omega)] at hu
          cases hu
          exact ⟨by omega, by omega, u7, u8⟩
        · rw [if_neg a1] at hu
          by_cases a2 : u.lo = x
          · rw [if_pos a2] at hu
            cases hu
            exact ⟨by omega, by omega, u7, u8⟩
          · rw [if_neg a2] at hu; cases hu
  obtain ⟨a1, a2, a3, a4⟩ := key s s1 ns s3 h1
  obtain ⟨b1, b2, b3, b4⟩ := key t t1 nt t3 h2
  cases s; cases t
  simp only at a1 a2 a3 a4 b1 b2 b3 b4
  subst a1; subst a2; subst a3; subst a4; subst b1; subst b2; subst b3; subst b4
  rfl

end Go.Proofs.Ythoiajpbpoglfaa

/- Hedges of a graph without bars. -/
namespace Go.Proofs.Ythoiajpbpoglfaa
set_option linter.unusedVariables false
set_option linter.unusedSimpArgs false
open Go.RowKit Go.WideMaps Go.Maps Go.MapKept Go.ChangeMaps

set_option maxHeartbeats 1000000 in
set_option maxRecDepth 100000 in
theorem hedges0_any (a1 : Option Addr) (n c1 : Nat) (hn : n ≤ 1048576) (w : World) :
    Calls Try.prog 49 #[.agg #[.slice a1 n c1, .slice none 0 0]] w fun e w' => ∃ H, e = .returned (.slice (some ⟨H, 0, none⟩) n n) ∧ w.heap.size ≤ H ∧ Bz w' H (madeCells #[.slice none 0 0, .map none, .int .i64 0] (n * 3)) 83 ∧ Below w.heap.size w w' := by
  have hmk := fun kl kc u => make_hedges n hn kl kc u
  have hb0 : Below w.heap.size w (w.alloc (.cells #[.slice a1 n c1, .slice none 0 0] 32)) := (Below.refl _ _).alloc (Nat.le_refl _) _
  have B0 := kide hb0
  have X0 := kide (Bz.new w #[.slice a1 n c1, .slice none 0 0] 32)
  clear hb0
  go_enter Try.func49, Try.ntmps49
  go_wp2_with fail
  generalize w.alloc (.cells #[.slice a1 n c1, .slice none 0 0] 32) = w0 at *
  refine Calls.mono (newBarSet_any _) ?_
  rintro e w1 ⟨s, rfl, hs, hb1⟩
  have B1 := kide (B0.out.trans (hb1.mono B0.out.size))
  have X1 := kide (X0.out.later hb1)
  have S1 := kide hs
  have x1 := X1.out.cell 1
  have lx := X1.out.lt
  simp at x1
  clear hb1 X0 B0 hs
  go_wp2_with fail
  go_loopw [13] (fun i wr => i = .int .i64 0 ∧ wr = w1) (fun _ _ => 0)
  case atStart => exact ⟨rfl, rfl⟩
  case round =>
    obtain ⟨rfl, hwe⟩ := hrel
    obtain rfl := hwe.symm
    clear hwe
    have x0 := X1.out.cell 0
    simp at x0
    obtain ⟨g, v, D, o1, o2, -⟩ := S1.out
    obtain ⟨av, cv, rfl⟩ := o1.form
    have X2 : Hid (Bz w1 s #[.slice av ([] : List Yg).length cv, .map (some g)] 116) := o2
    have hb2 : Below w1.heap.size w1 (w1.alloc (.cells (madeCells #[.slice none 0 0, .map none, .int .i64 0] (n * 3)) 83)) := (Below.refl _ _).alloc (Nat.le_refl _) _
    have B2 := kide (B1.out.trans (hb2.mono B1.out.size))
    have H2 := kide (Bz.new w1 (madeCells #[.slice none 0 0, .map none, .int .i64 0] (n * 3)) 83)
    have X3 := kide (X2.out.later hb2)
    have s0 := X2.out.cell 0
    simp at s0
    have ls := X2.out.lt
    clear o1 o2 hb2
    go_wp2_with fail
    obtain ⟨H, hH⟩ : ∃ H, w1.heap.size = H := ⟨_, rfl⟩
    have hlow : w.heap.size ≤ H := by rw [← hH]; exact B1.out.size
    rw [hH] at H2
    try simp only [hH]
    generalize w1.alloc (.cells (madeCells #[.slice none 0 0, .map none, .int .i64 0] (n * 3)) 83) = w2 at *
    clear hH s0 ls x0 hmk
    go_loopw [45] (fun i wr => i = .int .i64 0 ∧ wr = w2) (fun _ _ => 0)
    case atStart => exact ⟨rfl, rfl⟩
    case round =>
      obtain ⟨rfl, hwe⟩ := hrel
      obtain rfl := hwe.symm
      clear hwe
      go_wp2_with fail
      go_ret
      exact ⟨H, rfl, hlow, H2.out, B2.out⟩

end Go.Proofs.Ythoiajpbpoglfaa

/- A value more in a hedge, told. -/
namespace Go.Proofs.Ythoiajpbpoglfaa
set_option linter.unusedVariables false
set_option linter.unusedSimpArgs false
open Go.RowKit Go.WideMaps Go.Maps Go.MapKept Go.ChangeMaps

theorem upd_self {α : Type} (f : Nat → α) (i : Nat) : upd f i (f i) = f := by
  funext j
  unfold upd
  split
  · rename_i h; rw [h]
  · rfl

set_option maxHeartbeats 2000000 in
set_option maxRecDepth 100000 in
theorem addValue_told (B H n K i : Nat) (ov mv : Nat → Value) (cr : Nat → Int) (xo bd : Nat → List Int) (bw : Int) (a : Option Addr) (wn c : Nat) (ws : List Nat) (w : World) (h : Ht w B H n K ov mv cr xo bd) (hi : i < n) (hK : K ≤ 1048576) (hc : 0 ≤ cr i ∧ cr i ≤ 1048576) (hr : Rd w a ws) (hwn : ws.length = wn) (h0 : 0 < wn) (hnc : wn ≤ c) (hfar : ∀ b o sp, a = some ⟨b, o, sp⟩ → b < B) :
    Calls Try.prog 75 #[.pointer (some ⟨H, i * 3, none⟩), .agg #[.int .i64 bw, .slice a wn c]] w fun e w' => e = .returned (.tuple #[]) ∧ HtE w' B H n (K + 1) (upd cr i (cr i + 1)) xo (upd bd i (bd i ++ (smW ws).toList)) ∧ Below B w w' ∧ Ksh w w' := by
  obtain ⟨c0, c1, c2⟩ := h.hg.cells hi
  have f2 := h.hg.froz (i * 3 + 2)
  have hlH := h.hg.lt
  have hle := h.hg.le
  have hsz : (w.setCell ⟨H, i * 3 + 2, none⟩ (.int .i64 (cr i + 1))).heap.size = w.heap.size := by simp
  have hbx : Below (w.setCell ⟨H, i * 3 + 2, none⟩ (.int .i64 (cr i + 1))).heap.size (w.setCell ⟨H, i * 3 + 2, none⟩ (.int .i64 (cr i + 1))) ((w.setCell ⟨H, i * 3 + 2, none⟩ (.int .i64 (cr i + 1))).alloc (Obj.cells #[Value.int .i64 bw, Value.slice a wn c] 48)) := (Below.refl _ _).alloc (Nat.le_refl _) _
  have H1 := kide ((h.crowd i (cr i + 1)).later hbx)
  have X1 : Hid (Bz ((w.setCell ⟨H, i * 3 + 2, none⟩ (.int .i64 (cr i + 1))).alloc (Obj.cells #[Value.int .i64 bw, Value.slice a wn c] 48)) w.heap.size #[Value.int .i64 bw, Value.slice a wn c] 48) := by
    have h9 := Bz.new (w.setCell ⟨H, i * 3 + 2, none⟩ (.int .i64 (cr i + 1))) #[Value.int .i64 bw, Value.slice a wn c] 48
    rw [hsz] at h9
    exact h9
  have B1 : Hid (Below B w ((w.setCell ⟨H, i * 3 + 2, none⟩ (.int .i64 (cr i + 1))).alloc (Obj.cells #[Value.int .i64 bw, Value.slice a wn c] 48))) := ((Below.refl B w).setCell hle _).alloc (by rw [hsz]; omega) _
  have KS := kide ((show Ksh w (w.setCell ⟨H, i * 3 + 2, none⟩ (.int .i64 (cr i + 1))) from by obtain ⟨cc, hh, -⟩ := h.hg.cs; exact Ksh.set hh _ _).trans (Ksh.of hbx))
  have HR := kide (smallNumber_told bw a wn c ws _ (rd_far hr hfar B1.out) hwn h0 hnc)
  have hne1 : ¬ w.heap.size = H := by omega
  have hne2 : ¬ H = w.heap.size := by omega
  have d2 : (w.alloc (Obj.cells #[Value.int .i64 bw, Value.slice a wn c] 48)).cell? ⟨H, i * 3 + 2, none⟩ = some (.int .i64 (cr i)) := ((h.later ((Below.refl _ _).alloc (Nat.le_refl _) _)).hg.cells hi).2.2
  have e2 : (w.alloc (Obj.cells #[Value.int .i64 bw, Value.slice a wn c] 48)).frozen? ⟨H, i * 3 + 2, none⟩ = false := (h.later ((Below.refl _ _).alloc (Nat.le_refl _) _)).hg.froz (i * 3 + 2)
  have z0 : ((w.setCell ⟨H, i * 3 + 2, none⟩ (.int .i64 (cr i + 1))).alloc (Obj.cells #[Value.int .i64 bw, Value.slice a wn c] 48)).cell? ⟨w.heap.size, 0, none⟩ = some (Value.int .i64 bw) := X1.out.cell 0
  have z1 : ((w.setCell ⟨H, i * 3 + 2, none⟩ (.int .i64 (cr i + 1))).alloc (Obj.cells #[Value.int .i64 bw, Value.slice a wn c] 48)).cell? ⟨w.heap.size, 1, none⟩ = some (Value.slice a wn c) := X1.out.cell 1
  clear h hbx hr hwn h0 hnc hfar hsz
  go_enter Try.func75, Try.ntmps75
  go_wp2_with fail
  refine Calls.mono HR.out ?_
  rintro e w3 ⟨k, b, rfl, hk, hsm, hb3⟩
  have HSM := kide hsm
  clear hsm
  have H3 := kide (H1.out.later hb3)
  have K3 := kide (KS.out.trans (Ksh.of hb3))
  have B3 := kide (B1.out.trans (hb3.mono (Nat.le_trans (Nat.le_trans hle (Nat.le_of_lt hlH)) B1.out.size)))
  have hz3 : B ≤ w3.heap.size := by have := H3.out.hg.lt; omega
  clear H1 B1 X1 HR c0 c1 c2 f2 d2 e2 z0 z1 hb3
  cases b with
  | false =>
    go_wp2_with fail
    refine bodyPost_ret (v := .tuple #[]) (by simp [results, Try.results75, go_sem]) rfl ?_
    refine ⟨rfl, ⟨ov, mv, ?_⟩, B3.out, K3.out⟩
    have h9 := HSM.out
    rw [if_neg (by simp)] at h9
    rw [h9, show (none : Option Int).toList = [] from rfl, List.append_nil, upd_self]
    exact H3.out.more (Nat.le_succ K)
  | true =>
    have c1 := (H3.out.hg.cells hi).2.1
    have f1 := H3.out.hg.froz (i * 3 + 1)
    have qm : ∀ (w : World) (r : Option Nat), (binOp .eql 81 (.map r) (.map none)).run Try.prog w = .ok (.bool r.isNone) w := fun w r => run_eql_map_nil w _ _ _ r Try.underlying81
    have hmm := make_vals
    have hkey := keyOf_i64 hk
    have hsk : (smW ws).toList = [k] := by have h9 := HSM.out; rw [if_pos rfl] at h9; rw [h9]; rfl
    have HSK := kide hsk
    have HKI := kide hk
    clear hsk
    rcases H3.out.mt i hi with ⟨hm, hbd⟩ | ⟨g, m, D, hm, ho, hmK, hgB, hsi⟩
    · rw [hm] at c1
      have hbm : Below w3.heap.size w3 (w3.alloc (.map #[] 0)) := (Below.refl _ _).alloc (Nat.le_refl _) _
      have H4 := H3.out.later hbm
      have hlt4 := H3.out.hg.lt
      have o4 : (w3.alloc (.map #[] 0)).ownsMap Try.prog 2 unitElem w3.heap.size 0 (.map [] : DataW Unit) := World.ownsMap_made _ _ _ _
      have hnew : ∀ j, j < n → mv j ≠ .map (some w3.heap.size) := fun j hj e => by
        rcases H3.out.mt j hj with ⟨e2, -⟩ | ⟨g', m', D', e2, ho', -⟩
        · rw [e] at e2; cases e2
        · rw [e] at e2; cases e2
          obtain ⟨es, ck, hc⟩ := own_isMap ho'
          exact absurd (lt_of_block hc) (Nat.lt_irrefl _)
      have H5 := H4.made (i := i) o4 (Nat.zero_le K) (by omega) (by rw [hbd]; exact Si.start) hnew
      have HBD := kide hbd
      clear hnew hbd
      have hsw : (w3.alloc (.map #[] 0)).setCell ⟨H, i * 3 + 1, none⟩ (.map (some w3.heap.size)) = (w3.setCell ⟨H, i * 3 + 1, none⟩ (.map (some w3.heap.size))).alloc (.map #[] 0) := World.setCell_alloc_past _ _ _ _ hlt4
      have B5 : Below B w ((w3.alloc (.map #[] 0)).setCell ⟨H, i * 3 + 1, none⟩ (.map (some w3.heap.size))) := (B3.out.alloc hz3 _).setCell hle _
      have K5 : Ksh w ((w3.alloc (.map #[] 0)).setCell ⟨H, i * 3 + 1, none⟩ (.map (some w3.heap.size))) := (K3.out.trans (Ksh.of hbm)).trans (by obtain ⟨cc, hh, -⟩ := H4.hg.cs; exact Ksh.set hh _ _)
      rw [hsw] at H5 B5 K5
      have KK5 := kide K5
      clear K5
      have o5 : ((w3.setCell ⟨H, i * 3 + 1, none⟩ (.map (some w3.heap.size))).alloc (.map #[] 0)).ownsMap Try.prog 2 unitElem w3.heap.size 0 (.map [] : DataW Unit) := by
        rw [← hsw]
        exact own_below o4 (fun hl => heap_setCell_other _ _ _ _ (by simp; omega))
      have z1 : ((w3.setCell ⟨H, i * 3 + 1, none⟩ (.map (some w3.heap.size))).alloc (.map #[] 0)).cell? ⟨H, i * 3 + 1, none⟩ = some (.map (some w3.heap.size)) := by
        have h9 := (H5.hg.cells hi).2.1
        rw [upd_same] at h9
        exact h9
      have d1 : (w3.alloc (.map #[] 0)).cell? ⟨H, i * 3 + 1, none⟩ = some (.map none) := by rw [(H4.hg.cells hi).2.1, hm]
      have e1 := H4.hg.froz (i * 3 + 1)
      have hne3 : ¬ w3.heap.size = H := by omega
      have hne4 : ¬ H = w3.heap.size := by omega
      have HO := kide o5
      have HH5 := kide H5
      have BB5 := kide B5
      clear H4 H5 B5 o4 o5 hsw hm hbm
      go_wp2_with (first
          | (at_mapUpdate; refine wpList_mapUpdate_in _ rfl _ _ _ 81 rfl 2 126 i64Keyed Try.underlying81 unitElem w3.heap.size 0 (.map []) rfl HO.out (by unfold maxLen; omega) _ _ _ rfl rfl hkey (.agg []) [] unitElem_mk ?_)
          | fail)
      intro w6 ho6 ht6
      have H6 := kide ((HH5.out.more (Nat.le_succ K)).turned (l := bd i ++ [k]) hi (upd_same _ _ _) ho6 (by omega) (by rw [HBD.out]; exact Si.start.step HKI.out) ht6)
      have K6 := kide (KK5.out.trans (Ksh.turned ht6))
      have B6 := kide (Below.grown BB5.out ht6.grown (by have := BB5.out.size; omega) (fun j hj => by cases hj; exact hz3))
      clear ho6 ht6
      go_wp2_with fail
      go_end0
      exact ⟨rfl, ⟨_, _, by rw [HSK.out]; exact H6.out⟩, B6.out, K6.out⟩
    · rw [hm] at c1
      have HO := kide ho
      have HSI := kide hsi
      have HMV := kide hm
      have hz4 := B3.out.size
      clear ho hm hsi
      go_wp2_with (first
          | (at_mapUpdate; refine wpList_mapUpdate_in _ rfl _ _ _ 81 rfl 2 126 i64Keyed Try.underlying81 unitElem g m D rfl HO.out (by unfold maxLen; omega) _ _ _ rfl rfl hkey (.agg []) [] unitElem_mk ?_)
          | fail)
      intro w6 ho6 ht6
      have H6 := kide ((H3.out.more (Nat.le_succ K)).turned (l := bd i ++ [k]) hi HMV.out ho6 (by omega) (HSI.out.step HKI.out) ht6)
      have K6 := kide (K3.out.trans (Ksh.turned ht6))
      have B6 := kide (Below.grown B3.out ht6.grown hz3 (fun j hj => by cases hj; exact hgB))
      clear ho6 ht6
      go_wp2_with fail
      go_end0
      exact ⟨rfl, ⟨_, _, by rw [HSK.out]; exact H6.out⟩, B6.out, K6.out⟩

end Go.Proofs.Ythoiajpbpoglfaa
